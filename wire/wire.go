// Package wire turns messages into bytes and back (P3).
package wire

import "gossip/api"

// How many bytes stand ahead of the updates, and how many each of them has.
const (
	headSize   = 12
	updateSize = 6
)

// Encode gives the bytes of a whole message.
func Encode(m api.Message) (string, error) {
	if !whole(m) {
		return "", api.ErrPacket
	}
	var w writer
	w.put(1, m.Kind, m.From)
	w.put(4, m.Inc, m.Seq)
	w.put(1, m.Target, len(m.Updates))
	for _, k := range m.Updates {
		w.put(1, k.Id)
		w.put(4, k.Inc)
		w.put(1, k.State)
	}
	return string(w.bytes), nil
}

// Decode gives the message whose bytes b are. As each field has a fixed width, no two strings of the right length are
// the same message: it is enough to ask whether what was read is whole.
func Decode(b string) (api.Message, error) {
	if !rightLength(b) {
		return api.Message{}, api.ErrPacket
	}
	m := read(b)
	if !whole(m) {
		return api.Message{}, api.ErrPacket
	}
	return m, nil
}

// rightLength asks this ahead of all reading, so that the reader can never run out of bytes.
func rightLength(b string) bool {
	if len(b) < headSize {
		return false
	}
	updates := int(b[headSize-1])
	return len(b) == headSize+updates*updateSize
}

func read(b string) api.Message {
	r := reader{b}
	var m api.Message
	m.Kind = r.take(1)
	m.From = r.take(1)
	m.Inc = r.take(4)
	m.Seq = r.take(4)
	m.Target = r.take(1)
	for range r.take(1) {
		var k api.Key
		k.Id = r.take(1)
		k.Inc = r.take(4)
		k.State = r.take(1)
		m.Updates = append(m.Updates, k)
	}
	return m
}

type writer struct {
	bytes []byte
}

// put writes each number in so many bytes, the high one first.
func (w *writer) put(width int, numbers ...int) {
	for _, n := range numbers {
		for left := width - 1; left >= 0; left-- {
			w.bytes = append(w.bytes, byte(n>>(8*left)))
		}
	}
}

type reader struct {
	rest string
}

// take reads a number of so many bytes, the high one first.
func (r *reader) take(width int) int {
	n := 0
	for i := range width {
		n = n<<8 | int(r.rest[i])
	}
	r.rest = r.rest[width:]
	return n
}
