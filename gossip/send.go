package gossip

import (
	"cmp"
	"slices"

	"gossip/api"
	"gossip/list"
	"gossip/wire"
)

func (x *Node) nextNumber() int {
	x.number++
	return x.number
}

// packet gives a message of the node as bytes. Nobody waits for Encode's error: what the node sends is whole, as long as
// its numbers fit into four bytes.
func (x *Node) packet(to int, m api.Message) api.Packet {
	own := x.self()
	m.From, m.Inc = own.Id, own.Inc
	b, _ := wire.Encode(m)
	return api.Packet{To: to, Bytes: b}
}

// direct gives a Ping, an Ack or an Ask, with what it has along (P7).
func (x *Node) direct(kind, to, seq, target int) api.Packet {
	return x.packet(to, api.Message{Kind: kind, Seq: seq, Target: target, Updates: x.along()})
}

// along takes the updates for one packet, and counts them as sent.
func (x *Node) along() []api.Key {
	l := list.Keep(x.members(), member.isPending)
	slices.SortStableFunc(l, sentLess) // stable: those that were sent as often stay by rising ids
	l = l[:min(len(l), api.MaxUpdates)]
	for _, m := range l {
		m.sends--
		x.table[m.Id] = m
	}
	return list.Turn(l, member.key)
}

// sentLess orders by how often updates were sent: as all have the same number of sends, that is by how many are left.
func sentLess(a, b member) int { return cmp.Compare(b.sends, a.sends) }
