package gossip_test

import (
	"fmt"
	"testing"

	"gossip/api"
	"gossip/gossip"
)

// visit has a node probe so many, one behind the other, each of which answers; it gives their ids.
func visit(t *testing.T, x *gossip.Node, n int) []int {
	t.Helper()
	var out []int
	for range n {
		l := ticks(t, x, 1)
		if len(l) != 1 || l[0].M.Kind != api.Ping || l[0].To != l[0].M.Target || l[0].To != x.See().Probe {
			t.Fatalf("P9: no ping of a probe: %+v, See tells %d", l, x.See().Probe)
		}
		receive(t, x, message(api.Ack, l[0].To, l[0].M.Seq, l[0].To))
		idle(t, x, 3)
		out = append(out, l[0].To)
	}
	return out
}

func TestHowAPassIsMixed(t *testing.T) {
	for _, c := range []struct{ ids, give, with, should []int }{
		{[]int{3}, nil, nil, []int{3}},
		{[]int{3, 250}, []int{0}, []int{2}, []int{250, 3}},
		{[]int{3, 250}, []int{1}, []int{2}, []int{3, 250}},
		{[]int{1, 4, 9}, []int{0, 0}, []int{3, 2}, []int{4, 9, 1}},
		{[]int{1, 4, 9}, []int{1, 0}, []int{3, 2}, []int{9, 1, 4}},
		{[]int{2, 3, 4, 5}, []int{0, 0, 0}, []int{4, 3, 2}, []int{3, 4, 5, 2}},
		{[]int{2, 3, 4, 5}, []int{3, 2, 1}, []int{4, 3, 2}, []int{2, 3, 4, 5}},
		{[]int{2, 3, 4, 5}, []int{1, 2, 0}, []int{4, 3, 2}, []int{5, 2, 4, 3}},
		{[]int{2, 3, 4, 5}, []int{2, 0, 1}, []int{4, 3, 2}, []int{5, 3, 2, 4}},
		{[]int{1, 2, 3, 4, 5, 6, 8}, []int{0, 0, 0, 0, 0, 0}, []int{7, 6, 5, 4, 3, 2}, []int{2, 3, 4, 5, 6, 8, 1}},
	} {
		x, d := known(t, config(7), alive(c.ids...), c.give...)
		n := len(c.ids)
		what := fmt.Sprintf("%v, mixed by %v", c.ids, c.give)
		want(t, "P9: the pass of "+what, visit(t, x, 1), c.should[:1])
		want(t, "P9: with how many draw is called for "+what, d.asked, c.with)
		want(t, "P9: the rest of the pass of "+what, visit(t, x, n-1), c.should[1:])
		want(t, "P9: no draw within the pass of "+what, d.asked, c.with)
		// The next pass is the list by rising ids again, mixed anew.
		d.give = c.give
		want(t, "P9: the next pass of "+what, visit(t, x, n), c.should)
		want(t, "P9: with how many draw is called twice for "+what, d.asked, append(append([]int(nil), c.with...), c.with...))
	}
}

func TestDrawsGiveEachOrderOnce(t *testing.T) {
	seen := map[string]bool{}
	for a := range 4 {
		for b := range 3 {
			for c := range 2 {
				x, _ := known(t, config(7), alive(2, 3, 4, 5), a, b, c)
				seen[fmt.Sprint(visit(t, x, 4))] = true
			}
		}
	}
	want(t, "P9: orders", len(seen), 24)
}

func TestWhoIsGoneAheadOfItsTurn(t *testing.T) {
	for _, state := range []int{api.Dead, api.Left} {
		for _, gone := range []int{3, 4, 5} {
			x, d := known(t, config(7), alive(2, 3, 4, 5), 3, 2, 1)
			want(t, "P9: the first", visit(t, x, 1), []int{2})
			hears(t, x, key(gone, 1, state))
			var should []int
			for _, id := range []int{3, 4, 5} {
				if id != gone {
					should = append(should, id)
				}
			}
			want(t, "P9: who is gone is not probed", visit(t, x, 2), should)
			d.give, d.asked = []int{2, 1}, nil
			want(t, "P9: nor in the next pass", visit(t, x, 3), append([]int{2}, should...))
			want(t, "P9: with how many draw is called", d.asked, []int{3, 2})
		}
	}
}

func TestWhoIsBackComesInTheNextPass(t *testing.T) {
	for _, back := range []api.Key{key(3, 2, api.Alive), key(3, 2, api.Suspect)} {
		c := config(7)
		c.Suspect = 100
		x, d := known(t, c, alive(2, 3, 4), 2, 1)
		want(t, "P9: the first", visit(t, x, 1), []int{2})
		hears(t, x, key(3, 1, api.Dead))
		hears(t, x, back)
		want(t, "P9: who is back is not in this pass", visit(t, x, 1), []int{4})
		d.give = []int{2, 1}
		want(t, "P9: it is in the next", visit(t, x, 3), []int{2, 3, 4})
	}
}

func TestASuspectStaysInThePass(t *testing.T) {
	for _, k := range []api.Key{key(3, 1, api.Suspect), key(3, 9, api.Suspect), key(3, 9, api.Alive)} {
		c := config(7)
		c.Suspect = 100
		x, d := known(t, c, alive(2, 3, 4), 2, 1)
		want(t, "P9: the first", visit(t, x, 1), []int{2})
		hears(t, x, k)
		want(t, "P9: the rest", visit(t, x, 2), []int{3, 4})
		d.give = []int{2, 1}
		want(t, "P9: the next pass", visit(t, x, 3), []int{2, 3, 4})
	}
}

func TestWhoJoinsComesInTheNextPass(t *testing.T) {
	x, d := known(t, config(7), alive(2, 4), 1)
	want(t, "P9: the first", visit(t, x, 1), []int{2})
	hears(t, x, key(3, 1, api.Alive), key(9, 1, api.Dead))
	want(t, "P9: who joins is not in this pass", visit(t, x, 1), []int{4})
	d.give, d.asked = []int{2, 1}, nil
	want(t, "P9: it is in the next", visit(t, x, 3), []int{2, 3, 4})
	want(t, "P9: with how many draw is called", d.asked, []int{3, 2})
}

func TestAPassOfWhichAllAreGone(t *testing.T) {
	x, d := known(t, config(7), alive(2, 3, 4), 2, 1)
	want(t, "P9: the first", visit(t, x, 1), []int{2})
	hears(t, x, key(3, 1, api.Dead), key(4, 1, api.Left))
	d.asked = nil
	want(t, "P9: a pass of one", visit(t, x, 2), []int{2, 2})
	hears(t, x, key(3, 2, api.Alive))
	d.give = []int{1}
	want(t, "P9: a pass of two", visit(t, x, 2), []int{2, 3})
	want(t, "P9: with how many draw is called", d.asked, []int{2})
}

// Who is known from the first tick on is probed at the next one: nobody waits for a Period.
func TestTheFirstProbe(t *testing.T) {
	x, _ := drawing(t, config(7))
	idle(t, x, 6)
	hears(t, x, key(3, 1, api.Alive))
	want(t, "P9: nobody is probed ahead of a tick", x.See().Probe, 0)
	settle(t, x)
	want(t, "P9: the first probe", ticks(t, x, 1), []sent{of7(api.Ping, 3, 1, 3)})
	idle(t, x, 3)
	want(t, "P9: the next", ticks(t, x, 1), []sent{of7(api.Ping, 3, 2, 3, key(3, 1, api.Suspect))})
}
