package gossip_test

import (
	"fmt"
	"math/rand"
	"slices"
	"testing"

	"gossip/api"
	"gossip/gossip"
	"gossip/plain"
)

// model does what the document says, in its words, on plain lists: a node is held against it.
type model struct {
	c       api.Config
	draw    func(n int) int
	clock   int
	own     api.Key
	others  []api.Key   // as they came in
	times   map[int]int // of those that are Suspects, when they became that
	updates []modelUpdate
	relays  []modelRelay
	probes  []modelProbe // all there were
	pass    []int
	events  []api.Key
	number  int
	dropped int
	lost    int
}

type modelUpdate struct {
	key  api.Key
	sent int
}

type modelRelay struct {
	ask           api.Message
	number, start int
}

type modelProbe struct {
	id, number, start int
	answered, over    bool
}

func newModel(c api.Config, draw func(n int) int) *model {
	return &model{c: c, draw: draw, own: key(c.Self, 1, api.Alive), times: map[int]int{}}
}

// probe gives that which goes on, or nil.
func (y *model) probe() *modelProbe {
	if n := len(y.probes); n > 0 && !y.probes[n-1].over {
		return &y.probes[n-1]
	}
	return nil
}

func byIds(l []api.Key) []api.Key {
	l = slices.Clone(l)
	slices.SortFunc(l, func(a, b api.Key) int { return a.Id - b.Id })
	return l
}

func (y *model) see() api.State {
	s := api.State{Clock: y.clock, Self: y.own, Others: byIds(y.others), Pending: len(y.updates), Relays: len(y.relays), Dropped: y.dropped, Lost: y.lost}
	if p := y.probe(); p != nil {
		s.Probe = p.id
	}
	return s
}

func (y *model) change(k api.Key) {
	if len(y.events) < 8 {
		y.events = append(y.events, k)
	} else {
		y.lost++
	}
	y.updates = slices.DeleteFunc(y.updates, func(u modelUpdate) bool { return u.key.Id == k.Id })
	y.updates = append(y.updates, modelUpdate{key: k})
}

func (y *model) hear(k api.Key) {
	if k.Id == y.own.Id {
		if y.own.State != api.Left && k.State != api.Alive && k.Inc >= y.own.Inc && k.Inc != 1<<30 {
			y.own.Inc = k.Inc + 1
			y.change(y.own)
		}
		return
	}
	at := slices.IndexFunc(y.others, func(o api.Key) bool { return o.Id == k.Id })
	switch {
	case at < 0 && len(y.others) == 7:
		return
	case at < 0:
		y.others = append(y.others, k)
	case k.Inc > y.others[at].Inc, k.Inc == y.others[at].Inc && k.State > y.others[at].State:
		y.others[at] = k
	default:
		return
	}
	y.change(k)
	if k.State == api.Suspect {
		y.times[k.Id] = y.clock
	}
	if at := slices.Index(y.pass, k.Id); at >= 0 && k.State >= api.Dead {
		y.pass = slices.Delete(y.pass, at, at+1)
	}
}

// along picks the next update four times over.
func (y *model) along() []api.Key {
	var picked []api.Key
	for len(picked) < 4 {
		best := -1
		for i, u := range y.updates {
			if slices.ContainsFunc(picked, func(k api.Key) bool { return k.Id == u.key.Id }) {
				continue
			}
			if best < 0 || u.sent < y.updates[best].sent || u.sent == y.updates[best].sent && u.key.Id < y.updates[best].key.Id {
				best = i
			}
		}
		if best < 0 {
			break
		}
		picked = append(picked, y.updates[best].key)
		y.updates[best].sent++
	}
	y.updates = slices.DeleteFunc(y.updates, func(u modelUpdate) bool { return u.sent == y.c.Sends })
	return picked
}

func (y *model) sends(kind, to, seq, target int) []sent {
	return []sent{{to, api.Message{Kind: kind, From: y.own.Id, Inc: y.own.Inc, Seq: seq, Target: target, Updates: y.along()}}}
}

func (y *model) receive(b string) []sent {
	m, err := gossip.Decode(b)
	if err != nil || m.From == y.own.Id {
		y.dropped++
		return nil
	}
	y.hear(key(m.From, m.Inc, api.Alive))
	for _, k := range m.Updates {
		y.hear(k)
	}
	switch {
	case m.Kind == api.Join:
		all := byIds(append([]api.Key{y.own}, y.others...))
		return []sent{{m.From, api.Message{Kind: api.Table, From: y.own.Id, Inc: y.own.Inc, Seq: m.Seq, Updates: all}}}
	case m.Kind == api.Ack:
		if p := y.probe(); p != nil && p.id == m.Target && p.number == m.Seq {
			p.answered = true
		}
		for i, r := range y.relays {
			if r.number == m.Seq && r.ask.Target == m.Target {
				y.relays = slices.Delete(y.relays, i, i+1)
				return y.sends(api.Ack, r.ask.From, r.ask.Seq, m.Target)
			}
		}
	case m.Kind == api.Table:
	case m.Target == y.own.Id:
		return y.sends(api.Ack, m.From, m.Seq, m.Target)
	case m.Kind == api.Ask && len(y.relays) < 4:
		y.number++
		y.relays = append(y.relays, modelRelay{m, y.number, y.clock})
		return y.sends(api.Ping, m.Target, y.number, m.Target)
	}
	return nil
}

// tick goes through the four points, one behind the other.
func (y *model) tick() []sent {
	var out []sent
	y.clock++
	y.relays = slices.DeleteFunc(y.relays, func(r modelRelay) bool { return y.clock-r.start >= y.c.Period })
	for _, k := range byIds(y.others) {
		if k.State == api.Suspect && y.clock-y.times[k.Id] >= y.c.Suspect {
			y.hear(key(k.Id, k.Inc, api.Dead))
		}
	}
	if p := y.probe(); p != nil && y.clock == p.start+y.c.Wait && !p.answered {
		out = append(out, y.ask(p)...)
	} else if p != nil && y.clock == p.start+y.c.Period {
		p.over = true
		at := slices.IndexFunc(y.others, func(o api.Key) bool { return o.Id == p.id })
		if !p.answered && y.others[at].State == api.Alive {
			y.hear(key(p.id, y.others[at].Inc, api.Suspect))
		}
	}
	if y.probe() != nil || y.own.State == api.Left {
		return out
	}
	if len(y.pass) == 0 {
		y.newPass()
	}
	if len(y.pass) > 0 {
		y.number++
		y.probes = append(y.probes, modelProbe{id: y.pass[0], number: y.number, start: y.clock})
		out = append(out, y.sends(api.Ping, y.pass[0], y.number, y.pass[0])...)
		y.pass = slices.Clone(y.pass[1:])
	}
	return out
}

func (y *model) ask(p *modelProbe) []sent {
	var out []sent
	var asked []int
	for range y.c.Proxies {
		var left []int
		for _, k := range byIds(y.others) {
			if k.State <= api.Suspect && k.Id != p.id && !slices.Contains(asked, k.Id) {
				left = append(left, k.Id)
			}
		}
		if len(left) == 0 {
			break
		}
		id := left[y.draw(len(left))]
		asked = append(asked, id)
		out = append(out, y.sends(api.Ask, id, p.number, p.id)...)
	}
	return out
}

func (y *model) newPass() {
	for _, k := range byIds(y.others) {
		if k.State <= api.Suspect {
			y.pass = append(y.pass, k.Id)
		}
	}
	for left := len(y.pass); left > 1; left-- {
		j := y.draw(left)
		last := y.pass[left-1]
		y.pass[left-1] = y.pass[j]
		y.pass[j] = last
	}
}

func (y *model) join(id int) ([]sent, api.Errno) {
	if y.own.State == api.Left {
		return nil, api.ErrLeft
	}
	if id < 1 || id > 250 || id == y.own.Id {
		return nil, api.ErrId
	}
	y.number++
	return []sent{{id, api.Message{Kind: api.Join, From: y.own.Id, Inc: y.own.Inc, Seq: y.number}}}, api.OK
}

func (y *model) leave() api.Errno {
	if y.own.State == api.Left {
		return api.ErrLeft
	}
	y.own.State = api.Left
	y.change(y.own)
	return api.OK
}

func (y *model) drain(most int) []api.Key {
	n := min(most, len(y.events))
	out := y.events[:n]
	y.events = y.events[n:]
	return out
}

// dice draws by chance, and keeps with what it was called.
type dice struct {
	r     *rand.Rand
	asked []int
}

func newDice(seed int64) *dice { return &dice{r: rand.New(rand.NewSource(seed))} }

func (d *dice) draw(n int) int {
	d.asked = append(d.asked, n)
	return d.r.Intn(n)
}

// game plays one row of calls on a node and on its model, which draw alike.
type game struct {
	t        *testing.T
	r        *rand.Rand
	x        *gossip.Node
	y        *model
	one, two *dice // the node's, the model's
	calm     bool  // others are seldom told to be gone, and answer more often
	leaves   bool
}

func newGame(t *testing.T, seed int64) *game {
	t.Helper()
	g := &game{t: t, r: rand.New(rand.NewSource(seed)), one: newDice(seed), two: newDice(seed), calm: seed%2 == 0, leaves: seed%8 < 2}
	c := api.Config{Self: 1 + g.r.Intn(10), Period: g.pick(4, 5, 6, 7, 4+g.r.Intn(47)), Suspect: g.pick(1, 4, 5, 9, 20, 1+g.r.Intn(500)), Proxies: g.r.Intn(4), Sends: 1 + g.r.Intn(8)}
	c.Wait = 1 + g.r.Intn(c.Period-2)
	x, err := gossip.New(c, g.one.draw)
	if err != nil {
		t.Fatalf("P4: New(%+v): %v", c, err)
	}
	g.x, g.y = x, newModel(c, g.two.draw)
	return g
}

func (g *game) pick(l ...int) int { return l[g.r.Intn(len(l))] }

// key is one of which something may turn: ids of few, incarnations about those that are there.
func (g *game) key() api.Key {
	id := 1 + g.r.Intn(10)
	there := g.y.own.Inc
	for _, k := range g.y.others {
		if k.Id == id {
			there = k.Inc
		}
	}
	inc := g.pick(1, 2, 3, there-1, there, there+1)
	if g.r.Intn(300) == 0 {
		inc = g.pick(api.MaxInc-1, api.MaxInc)
	}
	state := g.pick(states...)
	if g.calm && g.r.Intn(8) > 0 {
		state = api.Alive
	}
	return key(id, min(max(inc, 1), api.MaxInc), state)
}

func (g *game) bytes() string {
	from := g.key()
	m := api.Message{Kind: g.pick(kinds...), From: from.Id, Inc: from.Inc, Seq: g.pick(0, 1<<32-1, max(g.y.number-1, 0), g.y.number)}
	if direct(m.Kind) {
		m.Target = g.pick(g.y.own.Id, 1+g.r.Intn(10))
	}
	// An Ack of the probe, or of one of the relays, as these are seldom met by chance.
	if p := g.y.probe(); p != nil && m.Kind == api.Ack && g.r.Intn(2) == 0 {
		m.Seq, m.Target = p.number, g.pick(p.id, p.id, p.id, m.Target)
	} else if len(g.y.relays) > 0 && m.Kind == api.Ack {
		r := g.y.relays[g.r.Intn(len(g.y.relays))]
		m.Seq, m.Target = r.number, g.pick(r.ask.Target, r.ask.Target, m.Target)
	}
	for range g.r.Intn(mostUpdates(m.Kind) + 1) {
		m.Updates = append(m.Updates, g.key())
	}
	b := raw(m, len(m.Updates))
	if g.r.Intn(20) == 0 {
		b = b[:g.r.Intn(len(b))]
	}
	return b
}

func (g *game) move() string {
	switch n := g.r.Intn(40); {
	case n == 0:
		id := g.pick(-1, 0, 1, g.y.own.Id, 9, 250, 251)
		out, err := g.x.Join(id)
		should, errno := g.y.join(id)
		want(g.t, "P8: Join", readAll(g.t, out), should)
		wantErrno(g.t, "P8: Join", err, errno)
		return fmt.Sprintf("Join(%d)", id)
	case n == 1 && g.leaves:
		wantErrno(g.t, "P8: Leave", g.x.Leave(), g.y.leave())
		return "Leave()"
	case n < 8:
		want(g.t, "P6: Events", plain.Drain(g.x, n), g.y.drain(n))
		return "Events()"
	case n < 28:
		want(g.t, "P9: Tick", readAll(g.t, g.x.Tick()), g.y.tick())
		return "Tick()"
	}
	b := g.bytes()
	want(g.t, fmt.Sprintf("P7: Receive(%q)", b), readAll(g.t, g.x.Receive(b)), g.y.receive(b))
	return fmt.Sprintf("Receive(%q)", b)
}

func TestANodeDoesAsTheModel(t *testing.T) {
	for seed := range 800 {
		g := newGame(t, int64(seed))
		var moves []string
		for range 160 {
			moves = append(moves, g.move())
			want(t, "P4: See", g.x.See(), g.y.see())
			want(t, "P9: with how many draw is called", g.one.asked, g.two.asked)
			if t.Failed() {
				t.Fatalf("%+v, behind %q", g.y.c, moves)
			}
		}
	}
}
