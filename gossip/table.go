package gossip

import (
	"maps"
	"slices"

	"gossip/api"
	"gossip/list"
)

// member is one of the table. Each change of its key is an update, so what is to be passed on of it is always the key
// that stands here: it is enough to keep how often.
type member struct {
	api.Key
	until int // when its time is up, if it is a Suspect
	sends int // how often the key is still to be passed on
}

func (m member) key() api.Key { return m.Key }

func (m member) isPending() bool { return m.sends > 0 }

// members gives all of the table, by rising ids.
func (x *Node) members() []member {
	ids := slices.Sorted(maps.Keys(x.table))
	return list.Turn(ids, func(id int) member { return x.table[id] })
}

// others gives the keys of all but the node itself, by rising ids.
func (x *Node) others() []api.Key {
	return list.Turn(list.Drop(x.members(), x.isSelf), member.key)
}

// present gives the ids of the others that can be probed or asked, by rising ids.
func (x *Node) present() []int {
	return list.Turn(list.Keep(x.others(), isThere), func(k api.Key) int { return k.Id })
}

func (x *Node) self() api.Key { return x.table[x.config.Self].Key }

func (x *Node) isSelf(m member) bool { return m.Id == x.config.Self }

func (x *Node) hasLeft() bool { return x.self().State == api.Left }

// hear takes a key that somebody tells (P5).
func (x *Node) hear(k api.Key) {
	if k.Id == x.config.Self {
		x.hearOfSelf(k)
	} else {
		x.hearOfOther(k)
	}
}

// hearOfSelf speaks up against a key by which the node is not there. Above the greatest incarnation there is none to do
// it with.
func (x *Node) hearOfSelf(k api.Key) {
	own := x.self()
	if x.hasLeft() || k.State == api.Alive || k.Inc < own.Inc || k.Inc == api.MaxInc {
		return
	}
	own.Inc = k.Inc + 1
	x.change(own)
}

func (x *Node) hearOfOther(k api.Key) {
	old, known := x.table[k.Id]
	if known && !isGreater(k, old.Key) {
		return
	}
	if !known && len(x.table) >= api.MaxMembers {
		return
	}
	x.change(k)
	if !isThere(k) {
		x.pass = without(x.pass, k.Id)
	}
}

// isGreater holds two keys of one member against each other.
func isGreater(a, b api.Key) bool {
	if a.Inc != b.Inc {
		return a.Inc > b.Inc
	}
	return a.State > b.State
}

func without(ids []int, gone int) []int {
	return list.Drop(ids, func(id int) bool { return id == gone })
}

func isThere(k api.Key) bool { return k.State == api.Alive || k.State == api.Suspect }

// change lays a key into the table, to be told and to be passed on (P6).
func (x *Node) change(k api.Key) {
	x.table[k.Id] = member{Key: k, until: x.clock + x.config.Suspect, sends: x.config.Sends}
	select {
	case x.events <- k:
	default:
		x.lost++
	}
}
