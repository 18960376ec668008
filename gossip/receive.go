package gossip

import (
	"gossip/api"
	"gossip/list"
)

// relay is a ping that the node sent because another one asked for it.
type relay struct {
	target, number    int
	asker, askedUnder int // who asked, and the Seq of that Ask
	until             int
}

// deeds gives by kinds what the node does for a message, once its keys were heard (P7).
func (x *Node) deeds() [api.Table + 1]func(m api.Message) []api.Packet {
	return [api.Table + 1]func(m api.Message) []api.Packet{
		api.Ping:  x.takePing,
		api.Ack:   x.takeAck,
		api.Ask:   x.takeAsk,
		api.Join:  x.takeJoin,
		api.Table: x.takeTable,
	}
}

func (x *Node) takePing(m api.Message) []api.Packet {
	if m.Target != x.config.Self {
		return nil
	}
	return []api.Packet{x.direct(api.Ack, m.From, m.Seq, m.Target)}
}

func (x *Node) takeAck(m api.Message) []api.Packet {
	if x.probe.target == m.Target && x.probe.number == m.Seq {
		x.probe.answered = true
	}
	isIts := func(r relay) bool { return r.target == m.Target && r.number == m.Seq }
	its := list.Keep(x.relays, isIts)
	x.relays = list.Drop(x.relays, isIts)
	return list.Turn(its, func(r relay) api.Packet { return x.direct(api.Ack, r.asker, r.askedUnder, r.target) })
}

func (x *Node) takeAsk(m api.Message) []api.Packet {
	if m.Target == x.config.Self {
		return x.takePing(m)
	}
	if len(x.relays) >= api.MaxRelays {
		return nil
	}
	r := relay{target: m.Target, number: x.nextNumber(), asker: m.From, askedUnder: m.Seq, until: x.clock + x.config.Period}
	x.relays = append(x.relays, r)
	return []api.Packet{x.direct(api.Ping, r.target, r.number, r.target)}
}

func (x *Node) takeJoin(m api.Message) []api.Packet {
	all := list.Turn(x.members(), member.key)
	return []api.Packet{x.packet(m.From, api.Message{Kind: api.Table, Seq: m.Seq, Updates: all})}
}

// takeTable has nothing left to do: a Table is there for its keys, and these were heard.
func (x *Node) takeTable(api.Message) []api.Packet { return nil }
