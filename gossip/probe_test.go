package gossip_test

import (
	"fmt"
	"slices"
	"testing"

	"gossip/api"
	"gossip/gossip"
	"gossip/plain"
)

// probing gives a node that knows 2 and others, and that has just begun to probe 2, under the number 1, at the tick 1. The
// draws that are given are those behind the pass.
func probing(t *testing.T, c api.Config, l []api.Key, give ...int) (*gossip.Node, *draws) {
	t.Helper()
	x, d := drawing(t, c)
	hears(t, x, l...)
	settle(t, x)
	// Each one of the list stays where it is: that is by rising ids, with 2 ahead.
	for n := len(l); n > 1; n-- {
		d.give = append(d.give, n-1)
	}
	d.give = append(d.give, give...)
	want(t, "P9: the first probe", ticks(t, x, 1), []sent{of7(api.Ping, 2, 1, 2)})
	d.asked = nil
	return x, d
}

func periods() []api.Config {
	var out []api.Config
	for _, l := range [][2]int{{4, 1}, {4, 2}, {5, 1}, {5, 3}, {9, 4}, {50, 1}, {50, 47}, {50, 48}} {
		c := config(7)
		c.Period, c.Wait = l[0], l[1]
		out = append(out, c)
	}
	return out
}

// due gives what the node is to send so many ticks behind the beginning of a probe of 2, if its Ack comes behind so many.
func due(c api.Config, ticks, answer int) []sent {
	switch {
	case ticks == c.Wait && answer >= c.Wait:
		return []sent{of7(api.Ask, 3, 1, 2)}
	case ticks == c.Period && answer >= c.Period:
		return []sent{of7(api.Ping, 3, 2, 3, key(2, 1, api.Suspect))}
	case ticks == c.Period:
		return []sent{of7(api.Ping, 3, 2, 3)}
	}
	return nil
}

func TestWhenAProbeIsAnswered(t *testing.T) {
	for _, c := range periods() {
		for answer := range c.Period + 1 {
			for _, from := range []int{2, 3} {
				x, _ := probing(t, c, alive(2, 3))
				for n := range c.Period {
					want(t, "P9: See", x.See().Probe, 2)
					if n == answer {
						want(t, "P7: the Ack of a probe", receive(t, x, message(api.Ack, from, 1, 2)), []sent{})
					}
					what := fmt.Sprintf("P9: %d ticks behind, of Wait %d, Period %d, answered behind %d", n+1, c.Wait, c.Period, answer)
					want(t, what, ticks(t, x, 1), due(c, n+1, answer))
				}
				should, told := alive(2, 3), []api.Key(nil)
				if answer == c.Period {
					should[0].State = api.Suspect
					told = should[:1]
				}
				want(t, "P9: the others behind a probe", x.See().Others, should)
				want(t, "P9: events of a probe", plain.Drain(x, 9), told)
				want(t, "P9: See", x.See().Probe, 3)
			}
		}
	}
}

func TestWhatIsNoAnswer(t *testing.T) {
	for _, m := range []api.Message{
		message(api.Ack, 2, 0, 2), message(api.Ack, 2, 2, 2), message(api.Ack, 2, 1<<32-1, 2),
		message(api.Ack, 2, 1, 3), message(api.Ack, 2, 1, 7), message(api.Ack, 3, 1, 3),
		message(api.Ping, 2, 1, 2), message(api.Ping, 2, 1, 7), message(api.Ask, 2, 1, 7), message(api.Ask, 3, 1, 2),
		message(api.Join, 2, 1, 0), message(api.Table, 2, 1, 0),
	} {
		x, _ := probing(t, config(7), alive(2, 3))
		receive(t, x, m)
		ticks(t, x, 4)
		want(t, fmt.Sprintf("P9: behind %+v", m), x.See().Others[0], key(2, 1, api.Suspect))
	}
}

func TestARelayToWhoIsProbedIsNoProbe(t *testing.T) {
	x, _ := probing(t, config(7), alive(2, 3))
	want(t, "P7: an Ask", receive(t, x, message(api.Ask, 3, 60, 2)), []sent{of7(api.Ping, 2, 2, 2)})
	want(t, "P7: its Ack", receive(t, x, message(api.Ack, 2, 2, 2)), []sent{of7(api.Ack, 3, 60, 2)})
	ticks(t, x, 4)
	want(t, "P9: the probe is not answered", x.See().Others[0], key(2, 1, api.Suspect))
}

func TestAnAckOfAProbeThatIsOver(t *testing.T) {
	x, _ := probing(t, config(7), alive(2))
	ticks(t, x, 4)
	settle(t, x)
	want(t, "P9: 2 is probed again", x.See().Probe, 2)
	same(t, "P9: the Ack of the probe before", x, func() { receive(t, x, message(api.Ack, 2, 1, 2)) })
	receive(t, x, message(api.Ping, 2, 1, 7, key(2, 2, api.Alive)))
	settle(t, x)
	ticks(t, x, 4)
	want(t, "P9: it answers nothing now", x.See().Others, []api.Key{key(2, 2, api.Suspect)})
}

func TestAnsweredTwice(t *testing.T) {
	x, _ := probing(t, config(7), alive(2, 3))
	for range 2 {
		same(t, "P7: an Ack", x, func() {
			receive(t, x, message(api.Ack, 2, 1, 2))
			receive(t, x, message(api.Ack, 3, 9, 2))
		})
	}
	idle(t, x, 3)
	want(t, "P9: the next probe comes behind a Period all the same", ticks(t, x, 1), []sent{of7(api.Ping, 3, 2, 3)})
	want(t, "P9: the others", x.See().Others, alive(2, 3))
}

// asked gives what follows when the list's places are drawn, one behind the other.
func asked(list []int, places []int) []sent {
	list = slices.Clone(list)
	var out []sent
	for _, at := range places {
		out = append(out, of7(api.Ask, list[at], 1, 2))
		list = slices.Delete(list, at, at+1)
	}
	return out
}

func TestWhoIsAsked(t *testing.T) {
	all := []int{2, 3, 5, 8, 100, 249, 250}
	for others := 1; others <= 7; others++ {
		for proxies := 0; proxies <= 3; proxies++ {
			for _, first := range []int{0, 1, 2, 5} {
				c := config(7)
				c.Proxies = proxies
				var places, with []int
				for left := others - 1; left > 0 && len(places) < proxies; left-- {
					places = append(places, min(first, left-1))
					with = append(with, left)
				}
				x, d := probing(t, c, alive(all[:others]...), places...)
				idle(t, x, 1)
				what := fmt.Sprintf("of %d others %d are asked, drawn %v", others, proxies, places)
				want(t, "P9: "+what, ticks(t, x, 1), asked(all[1:others], places))
				want(t, "P9: with how many draw is called, when "+what, d.asked, with)
				idle(t, x, 1)
			}
		}
	}
}

func TestWhoCanBeAsked(t *testing.T) {
	c := config(7)
	c.Proxies, c.Period = 3, 6
	x, d := probing(t, c, alive(2, 3, 4, 5, 6, 8), 1, 1, 0)
	hears(t, x, key(3, 1, api.Left), key(4, 1, api.Suspect), key(5, 1, api.Dead))
	settle(t, x)
	idle(t, x, 1)
	want(t, "P9: neither who is probed, nor who is gone", ticks(t, x, 1), []sent{of7(api.Ask, 6, 1, 2), of7(api.Ask, 8, 1, 2), of7(api.Ask, 4, 1, 2)})
	want(t, "P9: with how many draw is called", d.asked, []int{3, 2, 1})
}

func TestASuspectIsProbedAndNotAsked(t *testing.T) {
	c := config(7)
	c.Proxies, c.Suspect = 3, 50
	x, d := drawing(t, c, 1)
	hears(t, x, key(2, 4, api.Suspect), key(3, 1, api.Alive))
	settle(t, x)
	want(t, "P9: a Suspect is probed", ticks(t, x, 1), []sent{of7(api.Ping, 2, 1, 2)})
	idle(t, x, 1)
	want(t, "P9: it is not asked for itself", ticks(t, x, 1), []sent{of7(api.Ask, 3, 1, 2)})
	want(t, "P9: with how many draw is called", d.asked, []int{2, 1})
	want(t, "P9: behind a Period", ticks(t, x, 2), []sent{of7(api.Ping, 3, 2, 3)})
	want(t, "P9: it is heard of no more", plain.Drain(x, 9), []api.Key{})
}

func TestWhoJoinsWhileAProbeGoesOnIsAsked(t *testing.T) {
	x, d := probing(t, config(7), alive(2))
	hears(t, x, key(5, 1, api.Alive))
	settle(t, x)
	idle(t, x, 1)
	want(t, "P9: who came in", ticks(t, x, 1), []sent{of7(api.Ask, 5, 1, 2)})
	want(t, "P9: with how many draw is called", d.asked, []int{1})
}

// Who is probed can die meanwhile: the probe goes on all the same.
func TestOthersAreAskedForOneThatIsGone(t *testing.T) {
	for _, state := range []int{api.Dead, api.Left} {
		x, _ := probing(t, config(7), alive(2, 3))
		hears(t, x, key(2, 1, state))
		settle(t, x)
		idle(t, x, 1)
		want(t, "P9: an Ask for one that is gone", ticks(t, x, 1), []sent{of7(api.Ask, 3, 1, 2)})
		idle(t, x, 1)
		want(t, "P9: See", x.See().Probe, 2)
		want(t, "P9: the next", ticks(t, x, 1), []sent{of7(api.Ping, 3, 2, 3)})
		want(t, "P9: the others", x.See().Others, []api.Key{key(2, 1, state), key(3, 1, api.Alive)})
	}
}

func TestWhomTheEndOfAProbeMakesASuspect(t *testing.T) {
	for _, c := range []struct{ heard, should api.Key }{
		{key(2, 1, api.Alive), key(2, 1, api.Suspect)},
		{key(2, 5, api.Alive), key(2, 5, api.Suspect)},
		{key(2, api.MaxInc, api.Alive), key(2, api.MaxInc, api.Suspect)},
		{key(2, 1, api.Suspect), key(2, 1, api.Suspect)},
		{key(2, 4, api.Suspect), key(2, 4, api.Suspect)},
		{key(2, 1, api.Dead), key(2, 1, api.Dead)},
		{key(2, 6, api.Dead), key(2, 6, api.Dead)},
		{key(2, 1, api.Left), key(2, 1, api.Left)},
		{key(2, 6, api.Left), key(2, 6, api.Left)},
	} {
		for _, answered := range []bool{false, true} {
			x, _ := probing(t, config(7), alive(2))
			idle(t, x, 3)
			hears(t, x, c.heard)
			settle(t, x)
			should, told := c.heard, []api.Key(nil)
			if answered {
				receive(t, x, message(api.Ack, 2, 1, 2))
			} else if c.heard.State == api.Alive {
				should, told = c.should, []api.Key{c.should}
			}
			ticks(t, x, 1)
			what := fmt.Sprintf("%v, answered: %v", c.heard, answered)
			want(t, "P9: the end of a probe of "+what, x.See().Others, []api.Key{should})
			want(t, "P9: events of "+what, plain.Drain(x, 9), told)
		}
	}
}

// diesAt asks whether 2, the only other one, is a Suspect until a tick, and Dead then.
func diesAt(t *testing.T, x *gossip.Node, tick int) {
	t.Helper()
	ticks(t, x, tick-1-x.See().Clock)
	want(t, "P9: a tick ahead of its death", x.See().Others, []api.Key{key(2, 1, api.Suspect)})
	ticks(t, x, 1)
	want(t, "P9: its death", x.See().Others, []api.Key{key(2, 1, api.Dead)})
}

func TestATimeBeginsAtTheEndOfAProbe(t *testing.T) {
	c := config(7)
	c.Suspect = 7
	x, _ := probing(t, c, alive(2))
	ticks(t, x, 4)
	want(t, "P9: the end of the probe", x.See().Others, []api.Key{key(2, 1, api.Suspect)})
	diesAt(t, x, 12)
}

// Who is a Suspect already is not given more time by the end of a probe, at the tick 5.
func TestTheEndOfAProbeGivesASuspectNoTime(t *testing.T) {
	c := config(7)
	c.Suspect = 4
	x, _ := probing(t, c, alive(2))
	idle(t, x, 2)
	hears(t, x, key(2, 1, api.Suspect))
	diesAt(t, x, 7)
}

// Suspects die ahead of what is done of the probe, and of the next one.
func TestTheOrderWithinOneTick(t *testing.T) {
	c := config(7)
	c.Suspect, c.Proxies, c.Sends = 2, 3, 1
	x, d := probing(t, c, alive(2, 3, 4))
	hears(t, x, key(3, 1, api.Suspect))
	settle(t, x)
	idle(t, x, 1)
	want(t, "P9: who dies is not asked, and that goes along", ticks(t, x, 1), []sent{of7(api.Ask, 4, 1, 2, key(3, 1, api.Dead))})
	want(t, "P9: with how many draw is called", d.asked, []int{1})
	hears(t, x, key(2, 1, api.Suspect), key(4, 1, api.Suspect))
	settle(t, x)
	idle(t, x, 1)
	want(t, "P9: who dies is not probed", ticks(t, x, 1), []sent{})
	want(t, "P9: nor suspected", plain.Drain(x, 9), []api.Key{key(2, 1, api.Dead), key(4, 1, api.Dead)})
	want(t, "P9: See", x.See().Probe, 0)
}

func TestWhatThePacketsOfOneTickHaveAlong(t *testing.T) {
	ask := func(to int, along ...int) sent {
		m := api.Message{Kind: api.Ask, From: 7, Inc: 2, Seq: 1, Target: 2}
		for _, id := range along {
			m.Updates = append(m.Updates, key(id, 2, api.Alive))
		}
		return sent{to, m}
	}
	for sends, should := range map[int][]sent{
		1: {ask(6, 2, 3, 4, 5), ask(3, 6, 7, 8, 9), ask(9)},
		2: {ask(6, 2, 3, 4, 5), ask(3, 6, 7, 8, 9), ask(9, 2, 3, 4, 5)},
	} {
		c := config(7)
		c.Proxies, c.Sends = 3, sends
		x, _ := probing(t, c, alive(2, 3, 4, 5, 6, 8, 9), 3, 0, 3)
		var l []api.Key
		for _, id := range []int{9, 8, 6, 5, 4, 3, 2} {
			l = append(l, key(id, 2, api.Alive))
		}
		hears(t, x, append(l, key(7, 1, api.Suspect))...)
		want(t, "P9: See", x.See().Pending, 8)
		idle(t, x, 1)
		want(t, fmt.Sprintf("P9: what Asks have along, with Sends %d", sends), ticks(t, x, 1), should)
		want(t, "P9: See", x.See().Pending, 4*(sends-1))
	}
}

// Deaths of the tick, and who is suspected at it, go along with the next Ping at once.
func TestWhatAPingHasAlong(t *testing.T) {
	c := config(7)
	c.Suspect = 4
	x, _ := probing(t, c, alive(2, 3, 4, 8))
	hears(t, x, key(8, 1, api.Suspect), key(3, 1, api.Suspect))
	settle(t, x)
	receive(t, x, message(api.Ping, 4, 1, 7, key(4, 2, api.Alive), key(7, 1, api.Dead)))
	ticks(t, x, 3)
	settle(t, x)
	hears(t, x, key(4, 3, api.Alive), key(10, 1, api.Left))
	receive(t, x, message(api.Ping, 2, 1, 7))
	// 4 and 10 were sent once; 2, 3 and 8 change at this tick.
	want(t, "P9: a Ping", ticks(t, x, 1), []sent{{4, api.Message{Kind: api.Ping, From: 7, Inc: 2, Seq: 2, Target: 4,
		Updates: []api.Key{key(2, 1, api.Suspect), key(3, 1, api.Dead), key(8, 1, api.Dead), key(4, 3, api.Alive)}}}})
	want(t, "P9: See", x.See().Pending, 4)
}
