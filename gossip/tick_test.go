package gossip_test

import (
	"fmt"
	"testing"

	"gossip/api"
	"gossip/gossip"
	"gossip/plain"
)

// draws gives the numbers that are laid out for it, then 0, and keeps with what it was called.
type draws struct{ give, asked []int }

// drawing makes a node that is 7, with such draws.
func drawing(t *testing.T, c api.Config, give ...int) (*gossip.Node, *draws) {
	t.Helper()
	d := &draws{give: give}
	c.Self = 7
	x, err := gossip.New(c, func(n int) int {
		d.asked = append(d.asked, n)
		if len(d.give) == 0 {
			return 0
		}
		k := d.give[0]
		d.give = d.give[1:]
		if k >= n {
			t.Errorf("P9: a draw of %d, where there should be more than %d", n, k)
			return 0
		}
		return k
	})
	if err != nil || x == nil {
		t.Fatalf("P4: New(%+v) = %v, %v", c, x, err)
	}
	return x, d
}

func alive(ids ...int) []api.Key {
	var out []api.Key
	for _, id := range ids {
		out = append(out, key(id, 1, api.Alive))
	}
	return out
}

// hears lets a node hear keys that are told by one that it knows, or by the first of them.
func hears(t *testing.T, x *gossip.Node, l ...api.Key) {
	t.Helper()
	from := key(l[0].Id, 1, api.Alive)
	if others := x.See().Others; len(others) > 0 {
		from.Id = others[0].Id
	}
	tell(t, x, from, l...)
}

// settle lets a node pass on and tell all that it has: what comes then stands alone.
func settle(t *testing.T, x *gossip.Node) {
	t.Helper()
	for x.See().Pending > 0 {
		receive(t, x, message(api.Ping, x.See().Others[0].Id, 0, 7))
	}
	plain.Drain(x, 9)
}

// known makes a node that knows some, and has nothing to pass on of them.
func known(t *testing.T, c api.Config, l []api.Key, give ...int) (*gossip.Node, *draws) {
	t.Helper()
	x, d := drawing(t, c, give...)
	hears(t, x, l...)
	settle(t, x)
	return x, d
}

// ticks has a node tick so often, and gives what it sent in all.
func ticks(t *testing.T, x *gossip.Node, n int) []sent {
	t.Helper()
	var out []sent
	for range n {
		out = append(out, readAll(t, x.Tick())...)
	}
	return out
}

// idle has a node tick so often, and it may send nothing.
func idle(t *testing.T, x *gossip.Node, n int) {
	t.Helper()
	for range n {
		out := ticks(t, x, 1)
		want(t, fmt.Sprintf("P9: the tick %d", x.See().Clock), out, []sent{})
	}
}

// of7 is what the node 7 sends with its first incarnation.
func of7(kind, to, seq, target int, along ...api.Key) sent {
	return sent{to, api.Message{Kind: kind, From: 7, Inc: 1, Seq: seq, Target: target, Updates: along}}
}

func TestTheClock(t *testing.T) {
	x, d := drawing(t, config(7))
	for n := 1; n <= 600; n++ {
		want(t, "P9: one that knows nobody", ticks(t, x, 1), []sent{})
		want(t, "P9: See", x.See(), api.State{Clock: n, Self: key(7, 1, api.Alive)})
	}
	want(t, "P9: with how many draw was called", d.asked, []int{})
}

func TestNoneThatCanBeProbed(t *testing.T) {
	x, d := drawing(t, config(7))
	hears(t, x, key(2, 1, api.Dead), key(3, 1, api.Left))
	// 2 was the sender, and is known as Alive for a moment: what stands is what was told last.
	idle(t, x, 20)
	want(t, "P9: See", x.See(), api.State{Clock: 20, Self: key(7, 1, api.Alive), Others: []api.Key{key(2, 1, api.Dead), key(3, 1, api.Left)}, Pending: 2})
	want(t, "P9: with how many draw was called", d.asked, []int{})
	hears(t, x, key(3, 2, api.Alive))
	want(t, "P9: one that is back", ticks(t, x, 1)[0].To, 3)
}

// leftNode gives one that is silent by itself: what it sends is for a relay.
func leftNode(t *testing.T, c api.Config) *gossip.Node {
	t.Helper()
	x, _ := known(t, c, alive(9))
	wantErrno(t, "P8: Leave", x.Leave(), api.OK)
	settle(t, x)
	return x
}

func TestARelayEndsAtItsTick(t *testing.T) {
	for _, period := range []int{4, 5, 6, 49, 50} {
		for _, begin := range []int{0, 1, 3, 70} {
			c := config(7)
			c.Period = period
			x, y := leftNode(t, c), leftNode(t, c)
			for _, x := range []*gossip.Node{x, y} {
				idle(t, x, begin)
				want(t, "P7: an Ask", receive(t, x, message(api.Ask, 9, 70, 3)), []sent{of7(api.Ping, 3, 1, 3)})
				idle(t, x, period-1)
				want(t, "P9: relays ahead of their time", x.See().Relays, 1)
			}
			want(t, "P9: an Ack in time", receive(t, x, message(api.Ack, 9, 1, 3)), []sent{of7(api.Ack, 9, 70, 3)})
			idle(t, y, 1)
			want(t, "P9: relays whose time is up", y.See().Relays, 0)
			want(t, "P9: an Ack that comes too late", receive(t, y, message(api.Ack, 9, 1, 3)), []sent{})
		}
	}
}

func TestEachRelayEndsAtItsOwnTick(t *testing.T) {
	x := leftNode(t, config(7))
	for n := range 4 {
		receive(t, x, message(api.Ask, 9, 70+n, 3))
		idle(t, x, n%2)
	}
	// Two began at the clock 0, the third at 1, the fourth at 1 too: the clock shows 2.
	want(t, "P9: relays at 2", x.See().Relays, 4)
	idle(t, x, 1)
	want(t, "P7: a fifth", receive(t, x, message(api.Ask, 9, 75, 3)), []sent{})
	idle(t, x, 1)
	want(t, "P9: relays at 4", x.See().Relays, 2)
	want(t, "P9: there is room again", receive(t, x, message(api.Ask, 9, 76, 3)), []sent{of7(api.Ping, 3, 5, 3)})
	want(t, "P9: the first is over", receive(t, x, message(api.Ack, 9, 1, 3)), []sent{})
	want(t, "P9: the second is over", receive(t, x, message(api.Ack, 9, 2, 3)), []sent{})
	want(t, "P9: the third is not", receive(t, x, message(api.Ack, 9, 3, 3)), []sent{of7(api.Ack, 9, 72, 3)})
	idle(t, x, 1)
	want(t, "P9: the fourth is over", receive(t, x, message(api.Ack, 9, 4, 3)), []sent{})
	want(t, "P9: relays at 5", x.See().Relays, 1)
	idle(t, x, 2)
	want(t, "P9: relays at 7", x.See().Relays, 1)
	idle(t, x, 1)
	want(t, "P9: relays at 8", x.See().Relays, 0)
}

func TestASuspectsTime(t *testing.T) {
	for _, suspect := range []int{1, 2, 5, 499, 500} {
		for _, begin := range []int{0, 1, 30} {
			c := config(7)
			c.Suspect = suspect
			x := leftNode(t, c)
			idle(t, x, begin)
			hears(t, x, key(3, 6, api.Suspect))
			plain.Drain(x, 9)
			idle(t, x, suspect-1)
			want(t, "P9: a Suspect ahead of its time", x.See().Others[0], key(3, 6, api.Suspect))
			idle(t, x, 1)
			want(t, "P9: a Suspect whose time is up", x.See().Others[0], key(3, 6, api.Dead))
			idle(t, x, 1)
			want(t, "P6: events", plain.Drain(x, 9), []api.Key{key(3, 6, api.Dead)})
		}
	}
}

func TestSuspectsWhoseTimeIsUpAtOneTick(t *testing.T) {
	x := leftNode(t, config(7))
	hears(t, x, key(20, 1, api.Suspect), key(3, 2, api.Suspect), key(4, 1, api.Suspect), key(11, 3, api.Suspect), key(5, 1, api.Suspect))
	plain.Drain(x, 9)
	idle(t, x, 2)
	hears(t, x, key(3, 2, api.Suspect), key(4, 2, api.Suspect), key(5, 2, api.Alive), key(11, 2, api.Alive), key(9, 1, api.Suspect))
	want(t, "P5: events", plain.Drain(x, 9), []api.Key{key(4, 2, api.Suspect), key(5, 2, api.Alive), key(9, 1, api.Suspect)})
	idle(t, x, 2)
	want(t, "P9: nobody's time is up yet", plain.Drain(x, 9), []api.Key{})
	idle(t, x, 1)
	want(t, "P9: by rising ids", plain.Drain(x, 9), []api.Key{key(3, 2, api.Dead), key(11, 3, api.Dead), key(20, 1, api.Dead)})
	idle(t, x, 1)
	want(t, "P9: nobody's time is up", plain.Drain(x, 9), []api.Key{})
	idle(t, x, 1)
	want(t, "P9: whose time began anew", plain.Drain(x, 9), []api.Key{key(4, 2, api.Dead), key(9, 1, api.Dead)})
	idle(t, x, 20)
	want(t, "P9: who spoke up in time", x.See().Others, []api.Key{key(3, 2, api.Dead), key(4, 2, api.Dead), key(5, 2, api.Alive),
		key(9, 1, api.Dead), key(11, 3, api.Dead), key(20, 1, api.Dead)})
	want(t, "P9: events", plain.Drain(x, 9), []api.Key{})
}

func TestASuspectThatIsGoneAheadOfItsTime(t *testing.T) {
	x := leftNode(t, config(7))
	hears(t, x, key(3, 1, api.Suspect), key(4, 1, api.Suspect))
	hears(t, x, key(3, 1, api.Dead), key(4, 1, api.Left))
	plain.Drain(x, 9)
	idle(t, x, 10)
	want(t, "P9: the others", x.See().Others, []api.Key{key(3, 1, api.Dead), key(4, 1, api.Left), key(9, 1, api.Alive)})
	want(t, "P9: events", plain.Drain(x, 9), []api.Key{})
}

func TestDeathsThatFindNoRoom(t *testing.T) {
	x := leftNode(t, config(7))
	var l []api.Key
	for id := 20; id < 26; id++ {
		l = append(l, key(id, 1, api.Suspect))
	}
	hears(t, x, l...)
	idle(t, x, 5)
	// Six that are suspected, and two that are dead, have room.
	want(t, "P6: lost", x.See().Lost, 4)
	want(t, "P6: told", plain.Drain(x, 9)[6:], []api.Key{key(20, 1, api.Dead), key(21, 1, api.Dead)})
	want(t, "P6: all the same", x.See().Others[6], key(25, 1, api.Dead))
}

func TestWhoHasLeftProbesNobodyAnew(t *testing.T) {
	x, d := known(t, config(7), alive(2, 3))
	want(t, "P9: a probe", ticks(t, x, 1), []sent{of7(api.Ping, 3, 1, 3)})
	wantErrno(t, "P8: Leave", x.Leave(), api.OK)
	settle(t, x)
	idle(t, x, 1)
	want(t, "P9: its probe goes on", ticks(t, x, 1), []sent{of7(api.Ask, 2, 1, 3)})
	idle(t, x, 1)
	want(t, "P9: See", x.See().Probe, 3)
	idle(t, x, 1)
	want(t, "P9: its probe is over", x.See(), api.State{Clock: 5, Self: key(7, 1, api.Left), Others: []api.Key{key(2, 1, api.Alive), key(3, 1, api.Suspect)}, Pending: 1})
	// 2 stands in the pass still.
	idle(t, x, 20)
	want(t, "P9: who is suspected dies", x.See().Others, []api.Key{key(2, 1, api.Alive), key(3, 1, api.Dead)})
	want(t, "P9: with how many draw was called", d.asked, []int{2, 1})
}

func TestWhoHasLeftMakesNoPass(t *testing.T) {
	x, d := known(t, config(7), alive(2, 3, 4))
	wantErrno(t, "P8: Leave", x.Leave(), api.OK)
	idle(t, x, 30)
	want(t, "P9: See", x.See(), api.State{Clock: 30, Self: key(7, 1, api.Left), Others: alive(2, 3, 4), Pending: 1})
	want(t, "P9: with how many draw was called", d.asked, []int{})
}

// Asks take the probe's number, pings, relayed pings and joins the next one of one row.
func TestNumbersOfAllThatIsSent(t *testing.T) {
	x, _ := known(t, config(7), alive(2, 3))
	out, err := x.Join(4)
	wantErrno(t, "P8: Join", err, api.OK)
	want(t, "P7: numbers", readAll(t, out)[0].M.Seq, 1)
	want(t, "P7: numbers", ticks(t, x, 1), []sent{of7(api.Ping, 3, 2, 3)})
	want(t, "P7: numbers", receive(t, x, message(api.Ask, 2, 90, 5)), []sent{of7(api.Ping, 5, 3, 5)})
	out, err = x.Join(4)
	wantErrno(t, "P8: Join", err, api.OK)
	want(t, "P7: numbers", readAll(t, out)[0].M.Seq, 4)
	want(t, "P9: an Ask", ticks(t, x, 2), []sent{of7(api.Ask, 2, 2, 3)})
	want(t, "P7: numbers", receive(t, x, message(api.Ask, 2, 91, 5)), []sent{of7(api.Ping, 5, 5, 5)})
	want(t, "P7: an Ack of the probe", receive(t, x, message(api.Ack, 2, 2, 3)), []sent{})
	want(t, "P7: numbers", ticks(t, x, 2), []sent{of7(api.Ping, 2, 6, 2)})
	want(t, "P7: numbers", receive(t, x, message(api.Ask, 3, 92, 5)), []sent{of7(api.Ping, 5, 7, 5)})
}

func TestTheExample(t *testing.T) {
	x, err := gossip.New(config(1), func(int) int { return 0 })
	if err != nil {
		t.Fatal(err)
	}
	if _, err := x.Join(2); err != nil {
		t.Fatal(err)
	}
	receive(t, x, message(api.Table, 2, 1, 0, key(1, 1, api.Alive), key(2, 1, api.Alive)))
	ping := func(seq int, along ...api.Key) []sent {
		return []sent{{2, api.Message{Kind: api.Ping, From: 1, Inc: 1, Seq: seq, Target: 2, Updates: along}}}
	}
	want(t, "the example: the tick 1", ticks(t, x, 1), ping(2, key(2, 1, api.Alive)))
	idle(t, x, 3)
	plain.Drain(x, 9)
	want(t, "the example: the tick 5", ticks(t, x, 1), ping(3, key(2, 1, api.Suspect)))
	want(t, "the example: a change", plain.Drain(x, 9), []api.Key{key(2, 1, api.Suspect)})
	idle(t, x, 3)
	want(t, "the example: the tick 9", ticks(t, x, 1), ping(4, key(2, 1, api.Suspect)))
	idle(t, x, 1)
	want(t, "the example: the tick 10", plain.Drain(x, 9), []api.Key{key(2, 1, api.Dead)})
	for n := 10; n <= 12; n++ {
		want(t, "the example: who is probed", x.See().Probe, 2)
		idle(t, x, 1)
	}
	want(t, "the example: the tick 13", x.See(), api.State{Clock: 13, Self: key(1, 1, api.Alive), Others: []api.Key{key(2, 1, api.Dead)}, Pending: 1})
	idle(t, x, 20)
	want(t, "the example: then nobody is probed", x.See().Probe, 0)
}

func TestTicksAreTheCallers(t *testing.T) {
	begin := func() *gossip.Node {
		c := config(7)
		c.Proxies = 3
		x, _ := drawing(t, c)
		hears(t, x, alive(2, 3, 4, 5)...)
		return x
	}
	x, twin := begin(), begin()
	for range 40 {
		out := x.Tick()
		want(t, "P2: Tick", out, twin.Tick())
		spoil(out, api.Packet{To: 77, Bytes: "spoiled"})
		want(t, "P2: See behind Tick", x.See(), twin.See())
	}
}

func TestEachNodeHasItsOwnDraw(t *testing.T) {
	x, one := known(t, config(7), alive(2, 3, 4), 0, 1)
	y, two := known(t, config(7), alive(2, 3, 4), 2, 1)
	want(t, "P4: the one's draw", ticks(t, x, 1)[0].To, 4)
	want(t, "P4: the other's", ticks(t, y, 1)[0].To, 2)
	want(t, "P9: with how many the one was called", one.asked, []int{3, 2})
	want(t, "P9: with how many the other was", two.asked, []int{3, 2})
}
