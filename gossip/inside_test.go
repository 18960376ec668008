package gossip

import (
	"slices"
	"testing"

	"gossip/api"
)

// These look inside: what they ask about is not to be seen from outside before the node ticks.

func inside(t *testing.T) *Node {
	t.Helper()
	x, err := New(api.Config{Self: 7, Period: 6, Wait: 2, Suspect: 5, Proxies: 1, Sends: 2}, nil)
	if err != nil {
		t.Fatal(err)
	}
	x.clock = 100
	return x
}

func TestGoneMembersAreInThePassNoMore(t *testing.T) {
	for _, c := range []struct {
		k    api.Key
		want []int
	}{
		{api.Key{Id: 3, Inc: 2, State: api.Alive}, []int{4, 3, 5}},
		{api.Key{Id: 3, Inc: 1, State: api.Suspect}, []int{4, 3, 5}},
		{api.Key{Id: 3, Inc: 1, State: api.Dead}, []int{4, 5}},
		{api.Key{Id: 3, Inc: 1, State: api.Left}, []int{4, 5}},
		{api.Key{Id: 9, Inc: 1, State: api.Dead}, []int{4, 3, 5}},
	} {
		x := inside(t)
		for id := 3; id <= 5; id++ {
			x.hear(api.Key{Id: id, Inc: 1, State: api.Alive})
		}
		x.pass = []int{4, 3, 5}
		x.hear(c.k)
		if !slices.Equal(x.pass, c.want) {
			t.Errorf("P5: behind %v the pass is %v, want %v", c.k, x.pass, c.want)
		}
	}
}

func TestASuspectsTime(t *testing.T) {
	x := inside(t)
	x.hear(api.Key{Id: 3, Inc: 1, State: api.Suspect})
	x.clock++
	x.hear(api.Key{Id: 3, Inc: 1, State: api.Suspect})
	if until := x.table[3].until; until != 105 {
		t.Errorf("P5: a Suspect of the tick 100 has time until %d", until)
	}
	x.hear(api.Key{Id: 3, Inc: 2, State: api.Suspect})
	if until := x.table[3].until; until != 106 {
		t.Errorf("P5: a Suspect of the tick 101 has time until %d", until)
	}
}

func TestARelaysTime(t *testing.T) {
	x := inside(t)
	x.takeAsk(api.Message{Kind: api.Ask, From: 3, Inc: 1, Seq: 1, Target: 4})
	if len(x.relays) != 1 || x.relays[0].until != 106 {
		t.Errorf("P7: the relay of the tick 100 is %+v", x.relays)
	}
}

func TestAnAckAnswersTheProbe(t *testing.T) {
	for _, c := range []struct {
		target, seq int
		want        bool
	}{{3, 8, true}, {3, 7, false}, {4, 8, false}} {
		x := inside(t)
		x.probe = probe{target: 3, number: 8}
		if out := x.takeAck(api.Message{Kind: api.Ack, From: 9, Inc: 1, Seq: c.seq, Target: c.target}); len(out) > 0 {
			t.Errorf("P7: the Ack of a probe is passed on: %v", out)
		}
		if x.probe.answered != c.want || x.See().Probe != 3 {
			t.Errorf("P7: behind an Ack of %d %d: %+v, See tells %d", c.target, c.seq, x.probe, x.See().Probe)
		}
	}
}
