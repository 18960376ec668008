package gossip_test

import (
	"fmt"
	"math/rand"
	"slices"
	"testing"

	"gossip/api"
	"gossip/gossip"
	"gossip/plain"
)

// model does what the document says, in its words, on plain lists: a node is held against it.
type model struct {
	c       api.Config
	own     api.Key
	others  []api.Key // as they came in
	updates []modelUpdate
	relays  []modelRelay
	events  []api.Key
	number  int
	dropped int
	lost    int
}

type modelUpdate struct {
	key  api.Key
	sent int
}

type modelRelay struct {
	ask    api.Message
	number int
}

func newModel(c api.Config) *model {
	return &model{c: c, own: key(c.Self, 1, api.Alive)}
}

func byIds(l []api.Key) []api.Key {
	l = slices.Clone(l)
	slices.SortFunc(l, func(a, b api.Key) int { return a.Id - b.Id })
	return l
}

func (y *model) see() api.State {
	return api.State{Self: y.own, Others: byIds(y.others), Pending: len(y.updates), Relays: len(y.relays), Dropped: y.dropped, Lost: y.lost}
}

func (y *model) change(k api.Key) {
	if len(y.events) < 8 {
		y.events = append(y.events, k)
	} else {
		y.lost++
	}
	y.updates = slices.DeleteFunc(y.updates, func(u modelUpdate) bool { return u.key.Id == k.Id })
	y.updates = append(y.updates, modelUpdate{key: k})
}

func (y *model) hear(k api.Key) {
	if k.Id == y.own.Id {
		if y.own.State != api.Left && k.State != api.Alive && k.Inc >= y.own.Inc && k.Inc != 1<<30 {
			y.own.Inc = k.Inc + 1
			y.change(y.own)
		}
		return
	}
	at := slices.IndexFunc(y.others, func(o api.Key) bool { return o.Id == k.Id })
	switch {
	case at < 0 && len(y.others) == 7:
	case at < 0:
		y.others = append(y.others, k)
		y.change(k)
	case k.Inc > y.others[at].Inc, k.Inc == y.others[at].Inc && k.State > y.others[at].State:
		y.others[at] = k
		y.change(k)
	}
}

// along picks the next update four times over.
func (y *model) along() []api.Key {
	var picked []api.Key
	for len(picked) < 4 {
		best := -1
		for i, u := range y.updates {
			if slices.ContainsFunc(picked, func(k api.Key) bool { return k.Id == u.key.Id }) {
				continue
			}
			if best < 0 || u.sent < y.updates[best].sent || u.sent == y.updates[best].sent && u.key.Id < y.updates[best].key.Id {
				best = i
			}
		}
		if best < 0 {
			break
		}
		picked = append(picked, y.updates[best].key)
		y.updates[best].sent++
	}
	y.updates = slices.DeleteFunc(y.updates, func(u modelUpdate) bool { return u.sent == y.c.Sends })
	return picked
}

func (y *model) sends(kind, to, seq, target int) []sent {
	return []sent{{to, api.Message{Kind: kind, From: y.own.Id, Inc: y.own.Inc, Seq: seq, Target: target, Updates: y.along()}}}
}

func (y *model) receive(b string) []sent {
	m, err := gossip.Decode(b)
	if err != nil || m.From == y.own.Id {
		y.dropped++
		return nil
	}
	y.hear(key(m.From, m.Inc, api.Alive))
	for _, k := range m.Updates {
		y.hear(k)
	}
	switch {
	case m.Kind == api.Join:
		all := byIds(append([]api.Key{y.own}, y.others...))
		return []sent{{m.From, api.Message{Kind: api.Table, From: y.own.Id, Inc: y.own.Inc, Seq: m.Seq, Updates: all}}}
	case m.Kind == api.Ack:
		for i, r := range y.relays {
			if r.number == m.Seq && r.ask.Target == m.Target {
				y.relays = slices.Delete(y.relays, i, i+1)
				return y.sends(api.Ack, r.ask.From, r.ask.Seq, m.Target)
			}
		}
	case m.Kind == api.Table:
	case m.Target == y.own.Id:
		return y.sends(api.Ack, m.From, m.Seq, m.Target)
	case m.Kind == api.Ask && len(y.relays) < 4:
		y.number++
		y.relays = append(y.relays, modelRelay{m, y.number})
		return y.sends(api.Ping, m.Target, y.number, m.Target)
	}
	return nil
}

func (y *model) join(id int) ([]sent, api.Errno) {
	if y.own.State == api.Left {
		return nil, api.ErrLeft
	}
	if id < 1 || id > 250 || id == y.own.Id {
		return nil, api.ErrId
	}
	y.number++
	return []sent{{id, api.Message{Kind: api.Join, From: y.own.Id, Inc: y.own.Inc, Seq: y.number}}}, api.OK
}

func (y *model) leave() api.Errno {
	if y.own.State == api.Left {
		return api.ErrLeft
	}
	y.own.State = api.Left
	y.change(y.own)
	return api.OK
}

func (y *model) drain(most int) []api.Key {
	n := min(most, len(y.events))
	out := y.events[:n]
	y.events = y.events[n:]
	return out
}

// game plays one row of calls on a node and on its model.
type game struct {
	t *testing.T
	r *rand.Rand
	x *gossip.Node
	y *model
}

func (g *game) pick(l ...int) int { return l[g.r.Intn(len(l))] }

// key is one of which something may turn: ids of few, incarnations about those that are there.
func (g *game) key() api.Key {
	inc := g.pick(1, 2, 3, g.y.own.Inc-1, g.y.own.Inc, g.y.own.Inc+1)
	if g.r.Intn(300) == 0 {
		inc = g.pick(api.MaxInc-1, api.MaxInc)
	}
	return key(1+g.r.Intn(10), min(max(inc, 1), api.MaxInc), g.pick(states...))
}

func (g *game) bytes() string {
	from := g.key()
	m := api.Message{Kind: g.pick(kinds...), From: from.Id, Inc: from.Inc, Seq: g.pick(0, 1<<32-1, max(g.y.number-1, 0), g.y.number)}
	if direct(m.Kind) {
		m.Target = g.pick(g.y.own.Id, 1+g.r.Intn(10))
	}
	// An Ack of one of the relays, as these are seldom met by chance.
	if len(g.y.relays) > 0 && m.Kind == api.Ack {
		r := g.y.relays[g.r.Intn(len(g.y.relays))]
		m.Seq, m.Target = r.number, g.pick(r.ask.Target, r.ask.Target, m.Target)
	}
	for range g.r.Intn(mostUpdates(m.Kind) + 1) {
		m.Updates = append(m.Updates, g.key())
	}
	b := raw(m, len(m.Updates))
	if g.r.Intn(20) == 0 {
		b = b[:g.r.Intn(len(b))]
	}
	return b
}

func (g *game) move(leave bool) string {
	switch n := g.r.Intn(20); {
	case n == 0:
		id := g.pick(-1, 0, 1, g.y.own.Id, 9, 250, 251)
		out, err := g.x.Join(id)
		should, errno := g.y.join(id)
		want(g.t, "P8: Join", readAll(g.t, out), should)
		wantErrno(g.t, "P8: Join", err, errno)
		return fmt.Sprintf("Join(%d)", id)
	case n == 1 && leave:
		wantErrno(g.t, "P8: Leave", g.x.Leave(), g.y.leave())
		return "Leave()"
	case n < 5:
		want(g.t, "P6: Events", plain.Drain(g.x, n), g.y.drain(n))
		return "Events()"
	}
	b := g.bytes()
	want(g.t, fmt.Sprintf("P7: Receive(%q)", b), readAll(g.t, g.x.Receive(b)), g.y.receive(b))
	return fmt.Sprintf("Receive(%q)", b)
}

func TestANodeDoesAsTheModel(t *testing.T) {
	for seed := range 400 {
		r := rand.New(rand.NewSource(int64(seed)))
		c := api.Config{Self: 1 + r.Intn(10), Period: 4 + r.Intn(47), Wait: 1 + r.Intn(2), Suspect: 1 + r.Intn(500), Proxies: r.Intn(4), Sends: 1 + r.Intn(8)}
		g := &game{t, r, node(t, c), newModel(c)}
		var moves []string
		for range 120 {
			moves = append(moves, g.move(seed%4 == 0))
			want(t, "P4: See", g.x.See(), g.y.see())
			if t.Failed() {
				t.Fatalf("%+v, behind %q", c, moves)
			}
		}
	}
}
