// Package gossip: who is there: a node that probes others, is probed, and passes on what it hears: see DOC.md.
package gossip

import (
	"gossip/api"
	"gossip/bounds"
	"gossip/list"
	"gossip/wire"
)

// Encode writes a message (P3).
func Encode(m api.Message) (string, error) { return wire.Encode(m) }

// Decode reads one (P3).
func Decode(b string) (api.Message, error) { return wire.Decode(b) }

// Node is one of many.
type Node struct {
	config  api.Config
	draw    func(n int) int // gives a number below n
	clock   int
	table   map[int]member // by ids, the node itself among them
	pass    []int          // who is still to be probed in this one
	probe   probe
	relays  []relay
	number  int // the last one that was given out
	events  chan api.Key
	dropped int
	lost    int
}

// New makes a node (P4); draw gives a number below n.
func New(c api.Config, draw func(n int) int) (*Node, error) {
	if !inOrder(c) {
		return nil, api.ErrConfig
	}
	x := &Node{config: c, draw: draw, table: make(map[int]member), events: make(chan api.Key, api.MaxEvents)}
	// That a node begins is no change: there is nothing to tell, nor to pass on.
	x.table[c.Self] = member{Key: api.Key{Id: c.Self, Inc: 1, State: api.Alive}}
	return x, nil
}

func inOrder(c api.Config) bool {
	return bounds.IsId(c.Self) &&
		bounds.Within(c.Period, 4, api.MaxPeriod) &&
		bounds.Within(c.Wait, 1, c.Period-2) &&
		bounds.Within(c.Suspect, 1, api.MaxSuspect) &&
		bounds.Within(c.Proxies, 0, api.MaxProxies) &&
		bounds.Within(c.Sends, 1, api.MaxSends)
}

// See tells all that can be seen (P4).
func (x *Node) See() api.State {
	return api.State{
		Clock:   x.clock,
		Self:    x.self(),
		Others:  x.others(),
		Probe:   x.probe.target,
		Pending: len(list.Keep(x.members(), member.isPending)),
		Relays:  len(x.relays),
		Dropped: x.dropped,
		Lost:    x.lost,
	}
}

// Events is where changes of the table are told (P6).
func (x *Node) Events() <-chan api.Key { return x.events }

// Receive takes a packet; what it sends (P5, P7).
func (x *Node) Receive(b string) []api.Packet {
	m, err := wire.Decode(b)
	if err != nil || m.From == x.config.Self {
		x.dropped++
		return nil
	}
	x.hear(api.Key{Id: m.From, Inc: m.Inc, State: api.Alive})
	for _, k := range m.Updates {
		x.hear(k)
	}
	return x.deeds()[m.Kind](m)
}

// Join asks another one for its table (P8).
func (x *Node) Join(id int) ([]api.Packet, error) {
	if x.hasLeft() {
		return nil, api.ErrLeft
	}
	if !bounds.IsId(id) || id == x.config.Self {
		return nil, api.ErrId
	}
	return []api.Packet{x.packet(id, api.Message{Kind: api.Join, Seq: x.nextNumber()})}, nil
}

// Leave lets the node go (P8).
func (x *Node) Leave() error {
	if x.hasLeft() {
		return api.ErrLeft
	}
	own := x.self()
	own.State = api.Left
	x.change(own)
	return nil
}

// Tick is one tick of the clock; what it sends (P9).
func (x *Node) Tick() []api.Packet {
	x.clock++
	x.endRelays()
	x.endSuspects()
	out := x.goOnProbing()
	return append(out, x.probeNext()...)
}
