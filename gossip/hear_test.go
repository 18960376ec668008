package gossip_test

import (
	"fmt"
	"testing"

	"gossip/api"
	"gossip/gossip"
	"gossip/plain"
)

var states = []int{api.Alive, api.Suspect, api.Dead, api.Left}

// filler is who tells: it stands in the table ahead of what a test asks about.
var filler = key(9, 1, api.Alive)

// ownOf gives a node whose own incarnation was driven up, with nothing waiting in Events.
func ownOf(t *testing.T, inc int) *gossip.Node {
	t.Helper()
	x := node(t, config(7))
	if inc > 1 {
		tell(t, x, filler, key(7, inc-1, api.Suspect))
	} else {
		tell(t, x, filler)
	}
	want(t, "P5: the node's own incarnation", x.See().Self, key(7, inc, api.Alive))
	plain.Drain(x, 9)
	return x
}

func TestHearOfItself(t *testing.T) {
	for _, own := range []int{1, 2, 100, api.MaxInc - 1, api.MaxInc} {
		for _, inc := range []int{1, own - 1, own, own + 1, own + 50, api.MaxInc - 1, api.MaxInc} {
			if inc < 1 || inc > api.MaxInc {
				continue
			}
			for _, state := range states {
				x := ownOf(t, own)
				should, told := key(7, own, api.Alive), []api.Key(nil)
				if state != api.Alive && inc >= own && inc < api.MaxInc {
					should.Inc = inc + 1
					told = []api.Key{should}
				}
				tell(t, x, filler, key(7, inc, state))
				what := fmt.Sprintf("%d hears of itself %d %d", own, inc, state)
				want(t, "P5: "+what, x.See().Self, should)
				want(t, "P5: the others, when "+what, x.See().Others, []api.Key{filler})
				want(t, "P6: events, when "+what, plain.Drain(x, 9), told)
			}
		}
	}
}

func TestHearOfItselfBehindLeave(t *testing.T) {
	for _, inc := range []int{1, 4, 5, 6, api.MaxInc - 1, api.MaxInc} {
		for _, state := range states {
			x := ownOf(t, 5)
			wantErrno(t, "P8: Leave", x.Leave(), api.OK)
			same(t, fmt.Sprintf("P5: behind Leave, %d %d", inc, state), x, func() { tell(t, x, filler, key(7, inc, state)) })
		}
	}
}

func TestWhatIsSentHasTheNewIncarnation(t *testing.T) {
	x := node(t, config(2))
	tell(t, x, key(1, 1, api.Alive), key(3, 1, api.Alive))
	want(t, "P7: the Ack of one that is suspected", receive(t, x, message(api.Ping, 1, 8, 2, key(2, 1, api.Suspect))),
		[]sent{{1, api.Message{Kind: api.Ack, From: 2, Inc: 2, Seq: 8, Target: 2, Updates: []api.Key{key(1, 1, api.Alive), key(2, 2, api.Alive), key(3, 1, api.Alive)}}}})
}

func TestHearOfAnother(t *testing.T) {
	var all []api.Key
	for _, inc := range []int{1, 2, 3, api.MaxInc - 1, api.MaxInc} {
		for _, state := range states {
			all = append(all, key(4, inc, state))
		}
	}
	// The list rises: of two of its keys that which stands behind is greater.
	for at, old := range all {
		for with, k := range all {
			x := node(t, config(7))
			tell(t, x, filler, old)
			want(t, "P5: one that was not known", x.See().Others, []api.Key{old, filler})
			plain.Drain(x, 9)
			should, told := old, []api.Key(nil)
			if with > at {
				should, told = k, []api.Key{k}
			}
			tell(t, x, filler, k)
			what := fmt.Sprintf("%v is heard over %v", k, old)
			want(t, "P5: "+what, x.See().Others, []api.Key{should, filler})
			want(t, "P6: events, when "+what, plain.Drain(x, 9), told)
			want(t, "P6: what is to be passed on, when "+what, x.See().Pending, 2)
		}
	}
}

func TestTheSenderIsHeardOf(t *testing.T) {
	for _, kind := range kinds {
		x := node(t, config(7))
		m := message(kind, 250, 1, 0)
		if direct(kind) {
			m.Target = 250
		}
		m.Inc = api.MaxInc
		receive(t, x, m)
		want(t, fmt.Sprintf("P7: the sender of kind %d", kind), x.See().Others, []api.Key{key(250, api.MaxInc, api.Alive)})
		want(t, "P6: events", plain.Drain(x, 9), []api.Key{key(250, api.MaxInc, api.Alive)})
	}
}

func TestAGoneSenderIsNotBackUnderItsIncarnation(t *testing.T) {
	x := node(t, config(7))
	tell(t, x, filler, key(9, 1, api.Dead))
	want(t, "P5: one that is Dead", x.See().Others, []api.Key{key(9, 1, api.Dead)})
	same(t, "P5: the Dead one sends", x, func() { tell(t, x, filler) })
	tell(t, x, key(9, 2, api.Alive))
	want(t, "P5: one that is back", x.See().Others, []api.Key{key(9, 2, api.Alive)})
}

func TestAFullTable(t *testing.T) {
	x := node(t, config(7))
	tell(t, x, key(20, 1, api.Alive), key(19, 1, api.Left), key(18, 1, api.Dead), key(17, 1, api.Suspect), key(16, 1, api.Alive), key(15, 1, api.Alive))
	want(t, "P5: six others", len(x.See().Others), 6)
	tell(t, x, key(14, 1, api.Alive))
	want(t, "P5: the seventh", len(x.See().Others), 7)
	for _, state := range states {
		same(t, "P5: an eighth", x, func() { tell(t, x, key(20, 1, api.Alive), key(1, api.MaxInc, state)) })
		same(t, "P5: an eighth that sends", x, func() { tell(t, x, key(250, api.MaxInc, api.Alive), key(13, 5, state)) })
	}
	plain.Drain(x, 9)
	tell(t, x, key(1, 1, api.Alive), key(19, 2, api.Alive), key(7, 1, api.Dead), key(18, 1, api.Left))
	want(t, "P5: who is in a full table", x.See().Others, []api.Key{key(14, 1, api.Alive), key(15, 1, api.Alive),
		key(16, 1, api.Alive), key(17, 1, api.Suspect), key(18, 1, api.Left), key(19, 2, api.Alive), key(20, 1, api.Alive)})
	want(t, "P6: events of a full table", plain.Drain(x, 9), []api.Key{key(19, 2, api.Alive), key(7, 2, api.Alive), key(18, 1, api.Left)})
	want(t, "P7: one that is not in a full table is answered", receive(t, x, message(api.Ping, 1, 5, 7))[0].To, 1)
}

// Of one packet's keys the sender's comes first, then each in its place.
func TestKeysAreHeardInTheirOrder(t *testing.T) {
	x := node(t, config(7))
	tell(t, x, key(9, 3, api.Alive), key(9, 3, api.Suspect), key(9, 2, api.Left), key(7, 1, api.Dead), key(7, 2, api.Suspect),
		key(3, 1, api.Left), key(3, 1, api.Dead), key(3, 2, api.Alive))
	want(t, "P7: events in order", plain.Drain(x, 9), []api.Key{key(9, 3, api.Alive), key(9, 3, api.Suspect), key(7, 2, api.Alive),
		key(7, 3, api.Alive), key(3, 1, api.Left), key(3, 2, api.Alive)})
	want(t, "P7: others", x.See().Others, []api.Key{key(3, 2, api.Alive), key(9, 3, api.Suspect)})
	// There is room for one more than the sender and five: the last ones of the packet find none.
	y := node(t, config(7))
	tell(t, y, key(9, 1, api.Alive), key(30, 1, api.Alive), key(29, 1, api.Alive), key(28, 1, api.Alive), key(27, 1, api.Alive),
		key(26, 1, api.Alive), key(25, 1, api.Alive), key(1, 1, api.Alive), key(30, 1, api.Dead))
	want(t, "P7: who was heard of first", y.See().Others, []api.Key{key(9, 1, api.Alive), key(25, 1, api.Alive), key(26, 1, api.Alive),
		key(27, 1, api.Alive), key(28, 1, api.Alive), key(29, 1, api.Alive), key(30, 1, api.Dead)})
}

// All is heard ahead of what the kind does: an answer knows of it.
func TestKeysAreHeardAheadOfTheAnswer(t *testing.T) {
	x := node(t, config(7))
	want(t, "P7: a Table has what the Join told", receive(t, x, message(api.Join, 9, 3, 0, key(8, 1, api.Dead), key(7, 6, api.Suspect))),
		[]sent{{9, api.Message{Kind: api.Table, From: 7, Inc: 7, Seq: 3, Updates: []api.Key{key(7, 7, api.Alive), key(8, 1, api.Dead), key(9, 1, api.Alive)}}}})
}

func TestEventsThatFindNoRoom(t *testing.T) {
	x := node(t, config(7))
	c := x.Events()
	if cap(c) != 8 {
		t.Errorf("P6: there is room for %d events", cap(c))
	}
	var told []api.Key
	for inc := 1; inc <= 8; inc++ {
		tell(t, x, key(9, inc, api.Alive))
		told = append(told, key(9, inc, api.Alive))
		want(t, "P6: lost", x.See().Lost, 0)
	}
	for n := 1; n <= 3; n++ {
		tell(t, x, key(9, 8+n, api.Alive))
		want(t, "P6: lost", x.See().Lost, n)
		want(t, "P6: what was lost is in the table all the same", x.See().Others, []api.Key{key(9, 8+n, api.Alive)})
	}
	wantErrno(t, "P8: Leave", x.Leave(), api.OK)
	want(t, "P6: lost", x.See().Lost, 4)
	want(t, "P6: what was lost is passed on all the same", receive(t, x, message(api.Ping, 9, 1, 7))[0].M.Updates,
		[]api.Key{key(7, 1, api.Left), key(9, 11, api.Alive)})
	want(t, "P6: the first two", plain.Drain(x, 2), told[:2])
	tell(t, x, key(9, 20, api.Alive), key(9, 20, api.Suspect), key(9, 20, api.Dead))
	want(t, "P6: lost, with room for two", x.See().Lost, 5)
	want(t, "P6: the rest", plain.Drain(x, 99), append(told[2:], key(9, 20, api.Alive), key(9, 20, api.Suspect)))
	if x.Events() != c {
		t.Error("P6: Events is another channel")
	}
	select {
	case k, open := <-c:
		t.Errorf("P6: the empty channel gives %v, %v", k, open)
	default:
	}
	same(t, "P2: Events", x, func() { x.Events() })
}

func TestHearingNothingNewTellsNothing(t *testing.T) {
	x := node(t, config(7))
	tell(t, x, filler, key(3, 2, api.Suspect))
	receive(t, x, message(api.Ping, 9, 1, 7))
	receive(t, x, message(api.Ping, 9, 1, 7))
	want(t, "P7: all was passed on", x.See().Pending, 0)
	same(t, "P5: nothing new", x, func() {
		tell(t, x, filler, key(3, 2, api.Suspect), key(3, 2, api.Alive), key(3, 1, api.Left), key(7, 9, api.Alive))
	})
}
