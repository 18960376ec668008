package gossip_test

import (
	"testing"

	"gossip/api"
	"gossip/gossip"
)

// net carries packets among the nodes 1 to n, but for those that are lost.
type net struct {
	t    *testing.T
	l    []*gossip.Node
	lost func(from, to int) bool
}

func newNet(t *testing.T, n int) *net {
	t.Helper()
	w := &net{t: t, lost: func(int, int) bool { return false }}
	for id := 1; id <= n; id++ {
		x, err := gossip.New(config(id), func(n int) int { return (n + id) % n })
		if err != nil {
			t.Fatal(err)
		}
		w.l = append(w.l, x)
	}
	for id := 2; id <= n; id++ {
		out, err := w.l[id-1].Join(1)
		wantErrno(t, "P8: Join", err, api.OK)
		w.carry(id, out)
	}
	return w
}

func (w *net) carry(from int, l []api.Packet) {
	for _, p := range l {
		if !w.lost(from, p.To) {
			w.carry(p.To, w.l[p.To-1].Receive(p.Bytes))
		}
	}
}

func (w *net) tick(n int) {
	for range n {
		for at, x := range w.l {
			w.carry(at+1, x.Tick())
		}
	}
}

// others asks whether all but one that is out see the others so.
func (w *net) others(what string, out int, should ...api.Key) {
	w.t.Helper()
	for at, x := range w.l {
		if at+1 == out {
			continue
		}
		var l []api.Key
		for _, k := range should {
			if k.Id != at+1 {
				l = append(l, k)
			}
		}
		want(w.t, what, x.See().Others, l)
	}
}

func TestAllFindEachOther(t *testing.T) {
	w := newNet(t, 6)
	w.tick(60)
	w.others("all are there", 0, alive(1, 2, 3, 4, 5, 6)...)
	w.tick(100)
	w.others("all are still there", 0, alive(1, 2, 3, 4, 5, 6)...)
}

func TestAWayRoundABrokenOne(t *testing.T) {
	w := newNet(t, 3)
	w.tick(40)
	w.lost = func(from, to int) bool { return from+to == 3 }
	w.tick(100)
	w.others("each is asked for through the third", 0, alive(1, 2, 3)...)
}

func TestOneThatIsSilentIsDead(t *testing.T) {
	w := newNet(t, 4)
	w.tick(40)
	w.lost = func(from, to int) bool { return from == 3 || to == 3 }
	w.tick(60)
	w.others("one is silent", 3, key(1, 1, api.Alive), key(2, 1, api.Alive), key(3, 1, api.Dead), key(4, 1, api.Alive))
}

func TestOneThatIsSuspectedSpeaksUp(t *testing.T) {
	w := newNet(t, 4)
	w.tick(40)
	w.lost = func(from, to int) bool { return from == 3 }
	for w.l[0].See().Others[1].State == api.Alive {
		w.tick(1)
	}
	want(t, "3 is suspected", w.l[0].See().Others[1], key(3, 1, api.Suspect))
	w.lost = func(int, int) bool { return false }
	w.tick(60)
	want(t, "itself", w.l[2].See().Self, key(3, 2, api.Alive))
	// Its pings were lost too, so it may have suspected others meanwhile: all have spoken up.
	var now []api.Key
	for _, x := range w.l {
		now = append(now, x.See().Self)
	}
	w.others("it spoke up", 0, now...)
}

func TestOneThatLeaves(t *testing.T) {
	w := newNet(t, 4)
	w.tick(40)
	wantErrno(t, "P8: Leave", w.l[1].Leave(), api.OK)
	w.tick(60)
	w.others("one has left", 2, key(1, 1, api.Alive), key(2, 1, api.Left), key(3, 1, api.Alive), key(4, 1, api.Alive))
}
