package gossip_test

import (
	"fmt"
	"math"
	"reflect"
	"testing"

	"gossip/api"
	"gossip/gossip"
	"gossip/plain"
)

// config is that of the document's examples.
func config(self int) api.Config {
	return api.Config{Self: self, Period: 4, Wait: 2, Suspect: 5, Proxies: 1, Sends: 2}
}

// node makes one that may not draw: none of the calls here says that it does.
func node(t *testing.T, c api.Config) *gossip.Node {
	t.Helper()
	x, err := gossip.New(c, func(n int) int {
		t.Errorf("P2: a draw of %d", n)
		return 0
	})
	if err != nil || x == nil {
		t.Fatalf("P4: New(%+v) = %v, %v", c, x, err)
	}
	return x
}

func key(id, inc, state int) api.Key { return api.Key{Id: id, Inc: inc, State: state} }

func message(kind, from, seq, target int, updates ...api.Key) api.Message {
	return api.Message{Kind: kind, From: from, Inc: 1, Seq: seq, Target: target, Updates: updates}
}

// sent is a packet whose bytes were read.
type sent struct {
	To int
	M  api.Message
}

func readAll(t *testing.T, l []api.Packet) []sent {
	t.Helper()
	var out []sent
	for _, p := range l {
		m, err := gossip.Decode(p.Bytes)
		if err != nil {
			t.Fatalf("P7: a packet to %d has the bytes %q", p.To, p.Bytes)
		}
		out = append(out, sent{p.To, m})
	}
	return out
}

// receive hands a message in, and reads what comes out.
func receive(t *testing.T, x *gossip.Node, m api.Message) []sent {
	t.Helper()
	b, err := gossip.Encode(m)
	if err != nil {
		t.Fatalf("P3: Encode(%+v): %v", m, err)
	}
	return readAll(t, x.Receive(b))
}

// tell lets a node hear keys, in their order, behind that of who tells them.
func tell(t *testing.T, x *gossip.Node, from api.Key, l ...api.Key) {
	t.Helper()
	m := api.Message{Kind: api.Table, From: from.Id, Inc: from.Inc, Seq: 1, Updates: l}
	if out := receive(t, x, m); len(out) > 0 {
		t.Errorf("P7: a Table is answered with %+v", out)
	}
}

// want holds what was told against what should be, list by list and field by field; a list that is nil is an empty one.
func want(t *testing.T, what string, got, should any) {
	t.Helper()
	if g, s := fmt.Sprintf("%+v", got), fmt.Sprintf("%+v", should); g != s {
		t.Errorf("%s: %s, want %s", what, g, s)
	}
}

func wantErrno(t *testing.T, what string, err error, should api.Errno) {
	t.Helper()
	if plain.Told(err) != should {
		t.Errorf("%s: the error is %v, want %v", what, err, should)
	}
}

// same asks whether a call that was to change nothing did so.
func same(t *testing.T, what string, x *gossip.Node, call func()) {
	t.Helper()
	before, waiting := x.See(), len(x.Events())
	call()
	if after := x.See(); !reflect.DeepEqual(before, after) || len(x.Events()) != waiting {
		t.Errorf("%s: %+v became %+v, %d events became %d", what, before, after, waiting, len(x.Events()))
	}
}

func TestNewAtItsBounds(t *testing.T) {
	for _, c := range []struct {
		lay       func(c *api.Config, n int)
		good, bad []int
	}{
		{func(c *api.Config, n int) { c.Self = n }, []int{1, 2, 249, 250}, []int{0, 251, -1}},
		{func(c *api.Config, n int) { c.Period = n }, []int{4, 5, 49, 50}, []int{3, 51, 0, -1}},
		{func(c *api.Config, n int) { c.Wait = n }, []int{1, 2}, []int{0, 3, 4, 5, -1}},
		{func(c *api.Config, n int) { c.Period, c.Wait = 3, n }, nil, []int{0, 1, 2}},
		{func(c *api.Config, n int) { c.Period, c.Wait = 5, n }, []int{1, 2, 3}, []int{0, 4}},
		{func(c *api.Config, n int) { c.Period, c.Wait = 50, n }, []int{1, 47, 48}, []int{0, 49, 50}},
		{func(c *api.Config, n int) { c.Suspect = n }, []int{1, 2, 499, 500}, []int{0, 501, -1}},
		{func(c *api.Config, n int) { c.Proxies = n }, []int{0, 1, 2, 3}, []int{-1, 4}},
		{func(c *api.Config, n int) { c.Sends = n }, []int{1, 2, 7, 8}, []int{0, 9, -1}},
	} {
		for _, n := range c.good {
			g := config(7)
			c.lay(&g, n)
			want(t, fmt.Sprintf("P4: of New(%+v)", g), node(t, g).See(), api.State{Self: key(g.Self, 1, api.Alive)})
		}
		for _, n := range append(c.bad, math.MinInt, math.MinInt+1, math.MaxInt) {
			g := config(7)
			c.lay(&g, n)
			x, err := plain.New(g, nil)
			wantErrno(t, fmt.Sprintf("P4: New(%+v)", g), err, api.ErrConfig)
			if x != nil {
				t.Errorf("P1: New(%+v) gives a node beside an error", g)
			}
		}
	}
	if x, err := plain.New(api.Config{}, nil); x != nil || plain.Told(err) != api.ErrConfig {
		t.Errorf("P4: New of nothing = %v, %v", x, err)
	}
}

func TestSeeTellsEachCall(t *testing.T) {
	x := node(t, config(7))
	should := api.State{Self: key(7, 1, api.Alive)}
	step := func(what string) {
		t.Helper()
		want(t, "P4: See behind "+what, x.See(), should)
		want(t, "P2: See again behind "+what, x.See(), should)
	}
	step("New")
	if _, err := x.Join(9); err != nil {
		t.Fatal(err)
	}
	step("Join")
	tell(t, x, key(9, 1, api.Alive), key(8, 3, api.Suspect), key(3, 2, api.Dead))
	should.Others = []api.Key{key(3, 2, api.Dead), key(8, 3, api.Suspect), key(9, 1, api.Alive)}
	should.Pending = 3
	step("a Table")
	receive(t, x, message(api.Ask, 9, 1, 4))
	should.Relays = 1
	step("an Ask")
	x.Receive("")
	should.Dropped = 1
	step("no packet")
	receive(t, x, message(api.Ping, 9, 1, 7))
	should.Pending = 0
	step("a Ping")
	receive(t, x, message(api.Ack, 9, 2, 4))
	should.Relays = 0
	step("an Ack")
	if err := x.Leave(); err != nil {
		t.Fatal(err)
	}
	should.Self.State, should.Pending = api.Left, 1
	step("Leave")
	for inc := 2; inc <= 8; inc++ {
		tell(t, x, key(9, inc, api.Alive))
	}
	should.Others[2].Inc, should.Pending, should.Lost = 8, 2, 3
	step("changes for which there is no room")
}

func TestJoin(t *testing.T) {
	x := node(t, config(7))
	tell(t, x, key(9, 1, api.Alive))
	for n, id := range []int{1, 6, 8, 9, 249, 250} {
		var out []api.Packet
		var err error
		same(t, "P8: Join", x, func() { out, err = x.Join(id) })
		wantErrno(t, "P8: Join", err, api.OK)
		want(t, "P8: Join", readAll(t, out), []sent{{id, api.Message{Kind: api.Join, From: 7, Inc: 1, Seq: n + 1}}})
	}
	for _, id := range []int{0, 7, 251, 255, 256, 263, -1, -7, math.MinInt, math.MaxInt} {
		same(t, "P1: Join with an error", x, func() {
			out, err := x.Join(id)
			wantErrno(t, fmt.Sprintf("P8: Join(%d)", id), err, api.ErrId)
			if len(out) > 0 {
				t.Errorf("P1: Join(%d) gives %v beside an error", id, out)
			}
		})
	}
	tell(t, x, key(9, 1, api.Alive), key(7, 4, api.Suspect))
	out, err := x.Join(2)
	wantErrno(t, "P8: Join", err, api.OK)
	want(t, "P1: a Join behind those with an error", readAll(t, out), []sent{{2, api.Message{Kind: api.Join, From: 7, Inc: 5, Seq: 7}}})
}

func TestJoinOfOneThatHasLeft(t *testing.T) {
	x := node(t, config(7))
	wantErrno(t, "P8: Leave", x.Leave(), api.OK)
	for _, id := range []int{1, 7, 250, 0, 251, math.MinInt} {
		same(t, "P1: Join with an error", x, func() {
			out, err := x.Join(id)
			wantErrno(t, fmt.Sprintf("P8: Join(%d) behind Leave", id), err, api.ErrLeft)
			if len(out) > 0 {
				t.Errorf("P1: Join(%d) gives %v beside an error", id, out)
			}
		})
	}
	want(t, "P1: no number was used up", receive(t, x, message(api.Ask, 2, 9, 3))[0].M.Seq, 1)
}

func TestLeave(t *testing.T) {
	x := node(t, config(7))
	tell(t, x, key(9, 1, api.Alive), key(7, 3, api.Dead))
	plain.Drain(x, 9)
	wantErrno(t, "P8: Leave", x.Leave(), api.OK)
	want(t, "P8: Leave", x.See().Self, key(7, 4, api.Left))
	want(t, "P8: Leave is a change", plain.Drain(x, 9), []api.Key{key(7, 4, api.Left)})
	same(t, "P1: Leave with an error", x, func() { wantErrno(t, "P8: Leave again", x.Leave(), api.ErrLeft) })
	want(t, "P8: it is passed on, in place of what came before", receive(t, x, message(api.Ping, 9, 3, 7)),
		[]sent{{9, api.Message{Kind: api.Ack, From: 7, Inc: 4, Seq: 3, Target: 7, Updates: []api.Key{key(7, 4, api.Left), key(9, 1, api.Alive)}}}})
}

func TestGoesOnBehindLeave(t *testing.T) {
	x := node(t, config(7))
	wantErrno(t, "P8: Leave", x.Leave(), api.OK)
	own := key(7, 1, api.Left)
	want(t, "P8: a Join behind Leave", receive(t, x, message(api.Join, 9, 4, 0)),
		[]sent{{9, api.Message{Kind: api.Table, From: 7, Inc: 1, Seq: 4, Updates: []api.Key{own, key(9, 1, api.Alive)}}}})
	want(t, "P8: an Ask behind Leave", receive(t, x, message(api.Ask, 9, 5, 3)),
		[]sent{{3, api.Message{Kind: api.Ping, From: 7, Inc: 1, Seq: 1, Target: 3, Updates: []api.Key{own, key(9, 1, api.Alive)}}}})
	want(t, "P8: an Ack behind Leave", receive(t, x, message(api.Ack, 3, 1, 3)),
		[]sent{{9, api.Message{Kind: api.Ack, From: 7, Inc: 1, Seq: 5, Target: 3, Updates: []api.Key{key(3, 1, api.Alive), own, key(9, 1, api.Alive)}}}})
	want(t, "P8: a Ping behind Leave", receive(t, x, message(api.Ping, 9, 6, 7, key(3, 1, api.Suspect))),
		[]sent{{9, api.Message{Kind: api.Ack, From: 7, Inc: 1, Seq: 6, Target: 7, Updates: []api.Key{key(3, 1, api.Suspect)}}}})
}

// spoil writes into all that a list has room for.
func spoil[T any](l []T, with T) {
	l = l[:cap(l)]
	for i := range l {
		l[i] = with
	}
}

func TestAnswersAreTheCallers(t *testing.T) {
	x, twin := node(t, config(7)), node(t, config(7))
	both := func(what string, call func(x *gossip.Node) []api.Packet) {
		t.Helper()
		out := call(x)
		want(t, "P2: "+what, out, call(twin))
		spoil(out, api.Packet{To: 77, Bytes: "spoiled"})
		spoil(x.See().Others, key(77, 77, api.Dead))
		want(t, "P2: See behind "+what, x.See(), twin.See())
	}
	both("Join", func(x *gossip.Node) []api.Packet {
		out, _ := x.Join(9)
		return out
	})
	for round := range 3 {
		for _, m := range []api.Message{
			message(api.Table, 9, 1, 0, key(8, 1+round, api.Suspect), key(7, 1+round, api.Suspect), key(3, 1, api.Dead)),
			message(api.Ask, 8, 5, 4), message(api.Ask, 3, 5, 4), message(api.Ping, 9, 5, 7),
			message(api.Join, 2, 5, 0), message(api.Ack, 4, 2+2*round, 4), message(api.Join, 1, 6, 0),
		} {
			b := raw(m, len(m.Updates))
			both("Receive", func(x *gossip.Node) []api.Packet { return x.Receive(b) })
		}
	}
	one, two := x.See().Others, x.See().Others
	spoil(one, key(77, 77, api.Dead))
	want(t, "P2: two answers share memory", two, twin.See().Others)
}

func TestTwoNodesShareNothing(t *testing.T) {
	x, y := node(t, config(7)), node(t, config(8))
	same(t, "P2: another node's calls", y, func() {
		tell(t, x, key(9, 1, api.Alive), key(7, 1, api.Dead))
		receive(t, x, message(api.Ask, 9, 1, 4))
		x.Receive("")
		wantErrno(t, "P8: Leave", x.Leave(), api.OK)
	})
	want(t, "P7: each has numbers of its own", receive(t, y, message(api.Ask, 9, 1, 4))[0].M.Seq, 1)
}
