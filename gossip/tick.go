package gossip

import (
	"slices"

	"gossip/api"
	"gossip/list"
)

// probe is what the node waits for from who is probed now; target is 0, if there is nobody.
type probe struct {
	target, number int
	start          int // the tick at which it began
	answered       bool
}

func (x *Node) endRelays() {
	x.relays = list.Drop(x.relays, func(r relay) bool { return x.clock >= r.until })
}

func (x *Node) endSuspects() {
	for _, m := range list.Keep(x.members(), x.isOverdue) {
		m.State = api.Dead
		x.hear(m.Key)
	}
}

func (x *Node) isOverdue(m member) bool { return m.State == api.Suspect && x.clock >= m.until }

// goOnProbing does what is due of the probe that began at an earlier tick.
func (x *Node) goOnProbing() []api.Packet {
	if !x.isProbing() {
		return nil
	}
	switch x.clock - x.probe.start {
	case x.config.Wait:
		return x.askOthers()
	case x.config.Period:
		x.endProbe()
	}
	return nil
}

func (x *Node) isProbing() bool { return x.probe.target != 0 }

// askOthers lets others try who did not answer: it may be the way between the two that is broken.
func (x *Node) askOthers() []api.Packet {
	if x.probe.answered {
		return nil
	}
	var out []api.Packet
	able := without(x.present(), x.probe.target)
	for range min(x.config.Proxies, len(able)) {
		at := x.draw(len(able))
		out = append(out, x.direct(api.Ask, able[at], x.probe.number, x.probe.target))
		able = slices.Delete(able, at, at+1)
	}
	return out
}

// endProbe suspects who was silent, unless more is known of it by now: it may be Dead or have left while it was probed.
func (x *Node) endProbe() {
	over := x.probe
	x.probe = probe{}
	k := x.table[over.target].Key
	if over.answered || k.State != api.Alive {
		return
	}
	k.State = api.Suspect
	x.hear(k)
}

// probeNext begins with the next one of the pass, if nobody is probed.
func (x *Node) probeNext() []api.Packet {
	if x.isProbing() || x.hasLeft() {
		return nil
	}
	if len(x.pass) == 0 {
		x.pass = x.mixed(x.present())
	}
	if len(x.pass) == 0 {
		return nil
	}
	x.probe = probe{target: x.pass[0], number: x.nextNumber(), start: x.clock}
	x.pass = x.pass[1:]
	return []api.Packet{x.direct(api.Ping, x.probe.target, x.probe.number, x.probe.target)}
}

// mixed brings a list that is the node's own into an order that the draws give.
func (x *Node) mixed(l []int) []int {
	for i := len(l) - 1; i >= 1; i-- {
		j := x.draw(i + 1)
		l[i], l[j] = l[j], l[i]
	}
	return l
}
