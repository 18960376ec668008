package gossip_test

import (
	"fmt"
	"testing"

	"gossip/api"
	"gossip/gossip"
	"gossip/plain"
)

// quiet gives a node that knows 9 and has nothing to pass on, so that what it sends has nothing along.
func quiet(t *testing.T) *gossip.Node {
	t.Helper()
	c := config(7)
	c.Sends = 1
	x := node(t, c)
	tell(t, x, key(9, 1, api.Alive))
	receive(t, x, message(api.Ping, 9, 1, 7))
	want(t, "P7: all was passed on", x.See().Pending, 0)
	plain.Drain(x, 9)
	return x
}

func TestWhatIsDropped(t *testing.T) {
	good := message(api.Ping, 9, 1, 7, key(8, 1, api.Alive), key(7, 1, api.Dead))
	b := raw(good, 2)
	var wrong []string
	for short := range len(b) {
		wrong = append(wrong, b[:short])
	}
	wrong = append(wrong, b+"\x00", b[1:], "\x00"+b[1:], "\x06"+b[1:], raw(good, 1), raw(good, 3))
	for _, kind := range kinds {
		for n := range 3 {
			own := ordinary(kind, n)
			own.From = 7
			wrong = append(wrong, raw(own, n))
		}
	}
	x := node(t, config(7))
	for n, b := range wrong {
		if out := x.Receive(b); len(out) > 0 {
			t.Errorf("P7: Receive(%q) = %v", b, out)
		}
		want(t, fmt.Sprintf("P7: behind %q", b), x.See(), api.State{Self: key(7, 1, api.Alive), Dropped: n + 1})
	}
	if n := len(x.Events()); n > 0 {
		t.Errorf("P7: what is dropped gives %d events", n)
	}
	receive(t, x, good)
	want(t, "P7: a message is not dropped", x.See().Dropped, len(wrong))
}

func TestPing(t *testing.T) {
	for _, seq := range []int{0, 1, 77, 1<<32 - 1} {
		x := quiet(t)
		want(t, "P7: a Ping", receive(t, x, message(api.Ping, 9, seq, 7)),
			[]sent{{9, api.Message{Kind: api.Ack, From: 7, Inc: 1, Seq: seq, Target: 7}}})
		for _, target := range []int{1, 8, 9, 250} {
			same(t, "P7: a Ping for another Target", x, func() {
				want(t, "P7: a Ping for another Target", receive(t, x, message(api.Ping, 9, seq, target)), []sent{})
			})
		}
	}
}

func TestAsk(t *testing.T) {
	x := quiet(t)
	same(t, "P7: an Ask for the node", x, func() {
		want(t, "P7: an Ask for the node", receive(t, x, message(api.Ask, 9, 77, 7)),
			[]sent{{9, api.Message{Kind: api.Ack, From: 7, Inc: 1, Seq: 77, Target: 7}}})
	})
	// Neither that who asks is the Target, nor that nobody knows the Target, matters.
	for n, target := range []int{9, 1, 250} {
		want(t, "P7: an Ask", receive(t, x, message(api.Ask, 9, 77, target)),
			[]sent{{target, api.Message{Kind: api.Ping, From: 7, Inc: 1, Seq: n + 1, Target: target}}})
		want(t, "P7: relays", x.See().Relays, n+1)
	}
	want(t, "P7: a Target is not known for that", x.See().Others, []api.Key{key(9, 1, api.Alive)})
}

func TestAtMostFourRelays(t *testing.T) {
	x := quiet(t)
	for n := 1; n <= 4; n++ {
		want(t, "P7: an Ask", receive(t, x, message(api.Ask, 9, 70, 3)),
			[]sent{{3, api.Message{Kind: api.Ping, From: 7, Inc: 1, Seq: n, Target: 3}}})
	}
	for _, target := range []int{3, 9, 250} {
		same(t, "P7: a fifth relay", x, func() {
			want(t, "P7: a fifth relay", receive(t, x, message(api.Ask, 9, 71, target)), []sent{})
		})
	}
	want(t, "P7: an Ask for the node, with four relays", receive(t, x, message(api.Ask, 9, 72, 7)),
		[]sent{{9, api.Message{Kind: api.Ack, From: 7, Inc: 1, Seq: 72, Target: 7}}})
	want(t, "P7: the Ack of the third", receive(t, x, message(api.Ack, 9, 3, 3)),
		[]sent{{9, api.Message{Kind: api.Ack, From: 7, Inc: 1, Seq: 70, Target: 3}}})
	want(t, "P7: relays", x.See().Relays, 3)
	want(t, "P7: there is room again, and no number was used up", receive(t, x, message(api.Ask, 9, 73, 4)),
		[]sent{{4, api.Message{Kind: api.Ping, From: 7, Inc: 1, Seq: 5, Target: 4}}})
}

func TestAnAckIsPassedBack(t *testing.T) {
	x := quiet(t)
	receive(t, x, message(api.Ask, 9, 1<<32-1, 3))
	receive(t, x, message(api.Ask, 9, 0, 3))
	for _, c := range []struct{ seq, target int }{{0, 3}, {3, 3}, {1<<32 - 1, 3}, {1, 4}, {2, 7}, {1, 9}} {
		same(t, "P7: an Ack of nothing", x, func() {
			want(t, "P7: an Ack of nothing", receive(t, x, message(api.Ack, 9, c.seq, c.target)), []sent{})
		})
	}
	// Who sends the Ack does not matter, but for the key that is heard.
	want(t, "P7: an Ack", receive(t, x, message(api.Ack, 9, 2, 3)),
		[]sent{{9, api.Message{Kind: api.Ack, From: 7, Inc: 1, Seq: 0, Target: 3}}})
	same(t, "P7: an Ack again", x, func() {
		want(t, "P7: an Ack again", receive(t, x, message(api.Ack, 9, 2, 3)), []sent{})
	})
	want(t, "P7: an Ack of the Target", receive(t, x, message(api.Ack, 3, 1, 3)),
		[]sent{{9, api.Message{Kind: api.Ack, From: 7, Inc: 1, Seq: 1<<32 - 1, Target: 3, Updates: []api.Key{key(3, 1, api.Alive)}}}})
	want(t, "P7: relays", x.See().Relays, 0)
}

func TestEachAckGoesToWhoAsked(t *testing.T) {
	x := node(t, config(7))
	askers := []int{9, 8, 5, 9}
	for n, from := range askers {
		receive(t, x, message(api.Ask, from, 40+n, 3+n%2))
	}
	for _, n := range []int{2, 0, 3, 1} {
		out := receive(t, x, message(api.Ack, 3, n+1, 3+n%2))
		if len(out) != 1 || out[0].To != askers[n] || out[0].M.Kind != api.Ack || out[0].M.Seq != 40+n || out[0].M.Target != 3+n%2 {
			t.Errorf("P7: the Ack of relay %d: %+v", n, out)
		}
	}
	want(t, "P7: relays", x.See().Relays, 0)
}

func TestJoinIsAnsweredWithAll(t *testing.T) {
	x := node(t, config(7))
	want(t, "P7: a Join of the first", receive(t, x, message(api.Join, 9, 1<<32-1, 0)),
		[]sent{{9, api.Message{Kind: api.Table, From: 7, Inc: 1, Seq: 1<<32 - 1, Updates: []api.Key{key(7, 1, api.Alive), key(9, 1, api.Alive)}}}})
	tell(t, x, key(9, 1, api.Alive), key(250, 1, api.Left), key(1, 2, api.Dead), key(8, 4, api.Suspect), key(6, 1, api.Alive), key(5, 1, api.Alive), key(100, 1, api.Alive))
	all := []api.Key{key(1, 2, api.Dead), key(5, 1, api.Alive), key(6, 1, api.Alive), key(7, 1, api.Alive), key(8, 4, api.Suspect),
		key(9, 1, api.Alive), key(100, 1, api.Alive), key(250, 1, api.Left)}
	for _, from := range []int{9, 2} {
		same(t, "P7: a Table does not count as passing on", x, func() {
			want(t, "P7: a Join at a full table", receive(t, x, message(api.Join, from, 0, 0)),
				[]sent{{from, api.Message{Kind: api.Table, From: 7, Inc: 1, Seq: 0, Updates: all}}})
		})
	}
}

func TestNumbersAreOneRow(t *testing.T) {
	x := quiet(t)
	number := 0
	for range 3 {
		number++
		out, err := x.Join(3)
		wantErrno(t, "P8: Join", err, api.OK)
		want(t, "P7: the next number", readAll(t, out)[0].M.Seq, number)
		number++
		want(t, "P7: the next number", receive(t, x, message(api.Ask, 9, 5, 3))[0].M.Seq, number)
		receive(t, x, message(api.Ack, 9, number, 3))
	}
}

// along gives the updates of a Ping's Ack.
func along(t *testing.T, x *gossip.Node) []api.Key {
	t.Helper()
	out := receive(t, x, message(api.Ping, 9, 1, 7))
	if len(out) != 1 {
		t.Fatalf("P7: a Ping is answered with %+v", out)
	}
	return out[0].M.Updates
}

func TestEachUpdateGoesSendsTimes(t *testing.T) {
	for sends := 1; sends <= 8; sends++ {
		c := config(7)
		c.Sends = sends
		x := node(t, c)
		tell(t, x, filler, key(8, 1, api.Dead), key(7, 1, api.Suspect))
		all := []api.Key{key(7, 2, api.Alive), key(8, 1, api.Dead), key(9, 1, api.Alive)}
		for n := 1; n <= sends; n++ {
			want(t, "P7: still to be passed on", x.See().Pending, 3)
			want(t, fmt.Sprintf("P7: along, %d of %d", n, sends), along(t, x), all)
		}
		want(t, "P7: still to be passed on", x.See().Pending, 0)
		want(t, "P7: along behind all", along(t, x), []api.Key{})
	}
}

// eight gives a node with eight updates to pass on, of the ids 1 to 8, as it is 7.
func eight(t *testing.T, sends int) *gossip.Node {
	t.Helper()
	c := config(7)
	c.Sends = sends
	x := node(t, c)
	tell(t, x, key(8, 1, api.Alive), key(5, 1, api.Alive), key(7, 1, api.Dead), key(6, 1, api.Alive), key(1, 1, api.Alive),
		key(4, 1, api.Alive), key(2, 1, api.Alive), key(3, 1, api.Alive))
	want(t, "P7: to be passed on", x.See().Pending, 8)
	return x
}

func ids(l []api.Key) []int {
	var out []int
	for _, k := range l {
		out = append(out, k.Id)
	}
	return out
}

func TestAtMostFourAlong(t *testing.T) {
	x := eight(t, 2)
	want(t, "P7: along", ids(along(t, x)), []int{1, 2, 3, 4})
	want(t, "P7: still to be passed on", x.See().Pending, 8)
	want(t, "P7: along", ids(along(t, x)), []int{5, 6, 7, 8})
	want(t, "P7: along", ids(along(t, x)), []int{1, 2, 3, 4})
	want(t, "P7: still to be passed on", x.See().Pending, 4)
	want(t, "P7: along", ids(along(t, x)), []int{5, 6, 7, 8})
	want(t, "P7: along", ids(along(t, x)), []int{})
}

func TestSentLeastComesFirst(t *testing.T) {
	x := eight(t, 3)
	along(t, x)
	tell(t, x, filler, key(2, 1, api.Suspect), key(7, 9, api.Left))
	// 2, 5, 6, 7, 8 were not sent yet; 1, 3, 4 once.
	want(t, "P7: along", along(t, x), []api.Key{key(2, 1, api.Suspect), key(5, 1, api.Alive), key(6, 1, api.Alive), key(7, 10, api.Alive)})
	want(t, "P7: along", ids(along(t, x)), []int{8, 1, 2, 3})
	// 4 to 8 once; 1, 2, 3 twice.
	want(t, "P7: along", ids(along(t, x)), []int{4, 5, 6, 7})
	want(t, "P7: along", ids(along(t, x)), []int{8, 1, 2, 3})
	want(t, "P7: along", ids(along(t, x)), []int{4, 5, 6, 7})
	want(t, "P7: along", ids(along(t, x)), []int{8})
	want(t, "P7: along", ids(along(t, x)), []int{})
	tell(t, x, filler, key(4, 2, api.Alive))
	want(t, "P6: a change is passed on from the beginning", ids(along(t, x)), []int{4})
}

func TestPingsAndAcksOfRelaysHaveUpdatesAlong(t *testing.T) {
	x := eight(t, 1)
	want(t, "P7: a Ping of a relay", ids(receive(t, x, message(api.Ask, 8, 6, 20))[0].M.Updates), []int{1, 2, 3, 4})
	want(t, "P7: the Ack that is passed back", ids(receive(t, x, message(api.Ack, 8, 1, 20))[0].M.Updates), []int{5, 6, 7, 8})
	want(t, "P7: an Ack of an Ask", ids(receive(t, x, message(api.Ask, 8, 7, 7))[0].M.Updates), []int{})
}

func TestAJoinHasNothingAlong(t *testing.T) {
	x := eight(t, 1)
	same(t, "P8: Join does not count as passing on", x, func() {
		out, err := x.Join(3)
		wantErrno(t, "P8: Join", err, api.OK)
		want(t, "P8: Join", readAll(t, out), []sent{{3, api.Message{Kind: api.Join, From: 7, Inc: 2, Seq: 1}}})
	})
}

func TestTwoNodesMeet(t *testing.T) {
	one, two := node(t, config(1)), node(t, config(2))
	out, err := one.Join(2)
	wantErrno(t, "P8: Join", err, api.OK)
	want(t, "the example: a Join", out, []api.Packet{{To: 2, Bytes: "\x04\x01\x00\x00\x00\x01\x00\x00\x00\x01\x00\x00"}})
	back := two.Receive(out[0].Bytes)
	want(t, "the example: a Table", readAll(t, back),
		[]sent{{1, api.Message{Kind: api.Table, From: 2, Inc: 1, Seq: 1, Updates: []api.Key{key(1, 1, api.Alive), key(2, 1, api.Alive)}}}})
	want(t, "the example: nothing more", one.Receive(back[0].Bytes), []api.Packet{})
	want(t, "the example: changes", plain.Drain(one, 9), []api.Key{key(2, 1, api.Alive)})
	want(t, "the example: changes", plain.Drain(two, 9), []api.Key{key(1, 1, api.Alive)})
}
