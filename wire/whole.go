package wire

import (
	"gossip/api"
	"gossip/bounds"
)

// maxSeq is the greatest number that four bytes hold.
const maxSeq = 1<<32 - 1

func whole(m api.Message) bool {
	return bounds.IsId(m.From) && isInc(m.Inc) && isSeq(m.Seq) && suitsKind(m) && allKeys(m.Updates)
}

// suitsKind asks for what differs from kind to kind; a kind that is none suits nothing.
func suitsKind(m api.Message) bool {
	switch m.Kind {
	case api.Ping, api.Ack, api.Ask:
		return bounds.IsId(m.Target) && len(m.Updates) <= api.MaxUpdates
	case api.Join, api.Table:
		return m.Target == 0 && len(m.Updates) <= api.MaxMembers
	}
	return false
}

func allKeys(l []api.Key) bool {
	for _, k := range l {
		if !isKey(k) {
			return false
		}
	}
	return true
}

func isKey(k api.Key) bool {
	return bounds.IsId(k.Id) && isInc(k.Inc) && isState(k.State)
}

func isInc(n int) bool { return bounds.Within(n, 1, api.MaxInc) }

func isSeq(n int) bool { return bounds.Within(n, 0, maxSeq) }

func isState(n int) bool {
	switch n {
	case api.Alive, api.Suspect, api.Dead, api.Left:
		return true
	}
	return false
}
