package gossip_test

import (
	"errors"
	"math"
	"math/rand"
	"reflect"
	"strings"
	"testing"

	"gossip/api"
	"gossip/gossip"
	"gossip/plain"
)

var kinds = []int{api.Ping, api.Ack, api.Ask, api.Join, api.Table}

// direct tells the kinds that have a Target from those that have none.
func direct(kind int) bool { return kind == api.Ping || kind == api.Ack || kind == api.Ask }

func mostUpdates(kind int) int {
	if direct(kind) {
		return 4
	}
	return 8
}

// keys gives so many different keys that are in order.
func keys(n int) []api.Key {
	var l []api.Key
	for i := range n {
		l = append(l, api.Key{Id: 1 + i%250, Inc: 1 + i*70000, State: 1 + i%4})
	}
	return l
}

// ordinary gives a whole message of a kind, with so many updates.
func ordinary(kind, updates int) api.Message {
	m := api.Message{Kind: kind, From: 3, Inc: 5, Seq: 7, Updates: keys(updates)}
	if direct(kind) {
		m.Target = 9
	}
	return m
}

// raw writes a message's fields as the document lays them out, whether it is whole or not; the count is written as told.
func raw(m api.Message, count int) string {
	four := func(n int) []byte { return []byte{byte(n >> 24), byte(n >> 16), byte(n >> 8), byte(n)} }
	b := []byte{byte(m.Kind), byte(m.From)}
	b = append(b, four(m.Inc)...)
	b = append(b, four(m.Seq)...)
	b = append(b, byte(m.Target), byte(count))
	for _, k := range m.Updates {
		b = append(b, byte(k.Id))
		b = append(b, four(k.Inc)...)
		b = append(b, byte(k.State))
	}
	return string(b)
}

func wantWhole(t *testing.T, m api.Message) {
	t.Helper()
	b, err := gossip.Encode(m)
	if want := raw(m, len(m.Updates)); err != nil || b != want {
		t.Errorf("P3: Encode(%+v) = %q, %v, want %q", m, b, err, want)
	}
	back, err := gossip.Decode(raw(m, len(m.Updates)))
	if err != nil || !reflect.DeepEqual(back, m) {
		t.Errorf("P3: Decode of the bytes of %+v = %+v, %v", m, back, err)
	}
}

func wantNotEncoded(t *testing.T, m api.Message) {
	t.Helper()
	b, err := gossip.Encode(m)
	if !errors.Is(err, api.ErrPacket) || plain.Told(err) != api.ErrPacket {
		t.Errorf("P3: Encode(%+v): the error is %v, want ErrPacket", m, err)
	}
	if b != "" {
		t.Errorf("P1: Encode(%+v): beside an error stand the bytes %q", m, b)
	}
}

func wantNotDecoded(t *testing.T, b string) {
	t.Helper()
	m, err := gossip.Decode(b)
	if !errors.Is(err, api.ErrPacket) || plain.Told(err) != api.ErrPacket {
		t.Errorf("P3: Decode(%q): the error is %v, want ErrPacket", b, err)
	}
	if len(m.Updates) != 0 || m.Kind != 0 || m.From != 0 || m.Inc != 0 || m.Seq != 0 || m.Target != 0 {
		t.Errorf("P1: Decode(%q): beside an error stands the message %+v", b, m)
	}
}

// wantNotWhole asks both ways; fits tells whether the wrong numbers can be written as bytes at all.
func wantNotWhole(t *testing.T, m api.Message, fits bool) {
	t.Helper()
	wantNotEncoded(t, m)
	if fits {
		wantNotDecoded(t, raw(m, len(m.Updates)))
	}
}

func TestBytesOfEachKind(t *testing.T) {
	for _, c := range []struct {
		m    api.Message
		want string
	}{
		{api.Message{Kind: api.Ping, From: 1, Inc: 1, Seq: 2, Target: 2, Updates: []api.Key{{Id: 2, Inc: 1, State: api.Suspect}}},
			"\x01\x01\x00\x00\x00\x01\x00\x00\x00\x02\x02\x01" + "\x02\x00\x00\x00\x01\x02"},
		{api.Message{Kind: api.Ack, From: 2, Inc: 0x01020304, Seq: 0xa1b2c3d4, Target: 250},
			"\x02\x02\x01\x02\x03\x04\xa1\xb2\xc3\xd4\xfa\x00"},
		{api.Message{Kind: api.Ask, From: 250, Inc: 1 << 30, Seq: 1<<32 - 1, Target: 1, Updates: []api.Key{{Id: 250, Inc: 1 << 30, State: api.Left}, {Id: 1, Inc: 0x0a0b0c0d, State: api.Dead}}},
			"\x03\xfa\x40\x00\x00\x00\xff\xff\xff\xff\x01\x02" + "\xfa\x40\x00\x00\x00\x04" + "\x01\x0a\x0b\x0c\x0d\x03"},
		{api.Message{Kind: api.Join, From: 1, Inc: 1, Seq: 1},
			"\x04\x01\x00\x00\x00\x01\x00\x00\x00\x01\x00\x00"},
		{api.Message{Kind: api.Table, From: 2, Inc: 1, Seq: 1, Updates: []api.Key{{Id: 1, Inc: 1, State: api.Alive}, {Id: 2, Inc: 1, State: api.Alive}}},
			"\x05\x02\x00\x00\x00\x01\x00\x00\x00\x01\x00\x02" + "\x01\x00\x00\x00\x01\x01" + "\x02\x00\x00\x00\x01\x01"},
	} {
		if b, err := gossip.Encode(c.m); err != nil || b != c.want {
			t.Errorf("P3: Encode(%+v) = %q, %v, want %q", c.m, b, err, c.want)
		}
		if m, err := gossip.Decode(c.want); err != nil || !reflect.DeepEqual(m, c.m) {
			t.Errorf("P3: Decode(%q) = %+v, %v, want %+v", c.want, m, err, c.m)
		}
	}
}

func TestKinds(t *testing.T) {
	for _, kind := range kinds {
		wantWhole(t, ordinary(kind, 0))
		wantWhole(t, ordinary(kind, 2))
	}
	for _, target := range []int{0, 9} {
		for _, kind := range []int{0, 6, 7, 128, 255} {
			wantNotWhole(t, api.Message{Kind: kind, From: 3, Inc: 5, Seq: 7, Target: target}, true)
		}
		for _, kind := range []int{-1, -255, 256, 257, 261, math.MinInt, math.MaxInt} {
			wantNotWhole(t, api.Message{Kind: kind, From: 3, Inc: 5, Seq: 7, Target: target}, false)
		}
	}
}

// edges: of a field, what is in order, what is not though bytes can hold it, and what no bytes can hold.
type edges struct {
	good, bad, outside []int
}

var (
	idEdges    = edges{[]int{1, 2, 249, 250}, []int{0, 251, 255}, []int{-1, 256, 257, 506, -255, math.MinInt, math.MaxInt}}
	incEdges   = edges{[]int{1, 255, 256, 65536, 1<<24 + 1, 1<<30 - 1, 1 << 30}, []int{0, 1<<30 + 1, 1 << 31, 1<<32 - 1}, []int{-1, 1 << 32, 1<<32 + 1, math.MinInt, math.MaxInt}}
	seqEdges   = edges{[]int{0, 1, 256, 1<<30 + 1, 1<<31 - 1, 1 << 31, 1<<32 - 1}, nil, []int{-1, 1 << 32, 1<<32 + 7, math.MinInt, math.MaxInt}}
	noneEdges  = edges{[]int{0}, []int{1, 2, 250, 251, 255}, []int{-1, 256, math.MinInt, math.MaxInt}}
	stateEdges = edges{[]int{1, 2, 3, 4}, []int{0, 5, 6, 255}, []int{-1, 256, 257, math.MinInt, math.MaxInt}}
)

// tryEdges lays each number of the edges into one field of fresh messages.
func tryEdges(t *testing.T, e edges, fresh func() api.Message, lay func(m *api.Message, n int)) {
	t.Helper()
	each := func(l []int, ask func(m api.Message)) {
		for _, n := range l {
			m := fresh()
			lay(&m, n)
			ask(m)
		}
	}
	each(e.good, func(m api.Message) { wantWhole(t, m) })
	each(e.bad, func(m api.Message) { wantNotWhole(t, m, true) })
	each(e.outside, func(m api.Message) { wantNotWhole(t, m, false) })
}

func TestEdgesOfTheHead(t *testing.T) {
	for _, kind := range kinds {
		fresh := func() api.Message { return ordinary(kind, 1) }
		tryEdges(t, idEdges, fresh, func(m *api.Message, n int) { m.From = n })
		tryEdges(t, incEdges, fresh, func(m *api.Message, n int) { m.Inc = n })
		tryEdges(t, seqEdges, fresh, func(m *api.Message, n int) { m.Seq = n })
		target := noneEdges
		if direct(kind) {
			target = idEdges
		}
		tryEdges(t, target, fresh, func(m *api.Message, n int) { m.Target = n })
	}
}

func TestEdgesOfEachUpdate(t *testing.T) {
	for _, kind := range kinds {
		most := mostUpdates(kind)
		fresh := func() api.Message { return ordinary(kind, most) }
		for at := range most {
			tryEdges(t, idEdges, fresh, func(m *api.Message, n int) { m.Updates[at].Id = n })
			tryEdges(t, incEdges, fresh, func(m *api.Message, n int) { m.Updates[at].Inc = n })
			tryEdges(t, stateEdges, fresh, func(m *api.Message, n int) { m.Updates[at].State = n })
		}
	}
}

func TestHowManyUpdates(t *testing.T) {
	for _, kind := range kinds {
		most := mostUpdates(kind)
		for n := 0; n <= most; n++ {
			wantWhole(t, ordinary(kind, n))
		}
		for _, n := range []int{most + 1, 9, 250, 255} {
			wantNotWhole(t, ordinary(kind, n), true)
		}
		// 256 and more are 0 and more in one byte: that must not help them.
		for _, n := range []int{256, 257, 260, 1000} {
			wantNotEncoded(t, ordinary(kind, n))
			wantNotDecoded(t, raw(ordinary(kind, n), n))
		}
	}
}

// Nothing forbids an id twice among the updates, nor the sender's own.
func TestUpdatesMayRepeat(t *testing.T) {
	k := api.Key{Id: 3, Inc: 5, State: api.Alive}
	for _, kind := range kinds {
		m := ordinary(kind, 0)
		m.Updates = []api.Key{k, k, {Id: 3, Inc: 4, State: api.Dead}}
		wantWhole(t, m)
	}
}

func TestAnEmptyListIsNoUpdates(t *testing.T) {
	for _, kind := range kinds {
		m := ordinary(kind, 0)
		m.Updates = []api.Key{}
		if b, err := gossip.Encode(m); err != nil || b != raw(m, 0) {
			t.Errorf("P3: Encode(%+v) = %q, %v", m, b, err)
		}
	}
}

func TestDecodeAsksForJustTheBytes(t *testing.T) {
	for _, kind := range kinds {
		for n := 0; n <= mostUpdates(kind); n++ {
			m := ordinary(kind, n)
			b := raw(m, n)
			for short := range len(b) {
				wantNotDecoded(t, b[:short])
			}
			for _, more := range []string{"\x00", "\x01", "\x01\x00\x00\x00\x01\x01", b} {
				wantNotDecoded(t, b+more)
			}
			for count := range 256 {
				if count != n {
					wantNotDecoded(t, raw(m, count))
				}
			}
		}
	}
}

func TestDecodeOfNoMessage(t *testing.T) {
	wantNotDecoded(t, "")
	for _, c := range []string{"\x00", "\x01", "\x05", "x", "é", "\xff"} {
		for n := 1; n <= 300; n++ {
			b := strings.Repeat(c, n)
			if m, err := gossip.Decode(b); (err == nil) != wholeBytes(b) {
				t.Errorf("P3: Decode of %d times %q = %+v, %v", n, c, m, err)
			}
		}
	}
	wantNotDecoded(t, strings.Repeat("\x00", 12))
	wantNotDecoded(t, strings.Repeat("\x01", 12))
	wantNotDecoded(t, strings.Repeat("\xff", 12+6*255))
	wantNotDecoded(t, strings.Repeat("\x00", 1<<20))
}

// wholeBytes tells by the bytes alone whether they are those of a whole message.
func wholeBytes(b string) bool {
	id := func(c byte) bool { return c >= 1 && c <= 250 }
	inc := func(s string) bool { return s >= "\x00\x00\x00\x01" && s <= "\x40\x00\x00\x00" }
	if len(b) < 12 || len(b) != 12+6*int(b[11]) || !id(b[1]) || !inc(b[2:6]) {
		return false
	}
	ping := b[0] >= 1 && b[0] <= 3 && id(b[10]) && b[11] <= 4
	table := b[0] >= 4 && b[0] <= 5 && b[10] == 0 && b[11] <= 8
	for u := b[12:]; u != ""; u = u[6:] {
		if !id(u[0]) || !inc(u[1:5]) || u[5] < 1 || u[5] > 4 {
			return false
		}
	}
	return ping || table
}

func TestEachByteAtEachValue(t *testing.T) {
	for _, kind := range kinds {
		for n := range 3 {
			whole := raw(ordinary(kind, n), n)
			for at := range len(whole) {
				for v := range 256 {
					b := whole[:at] + string([]byte{byte(v)}) + whole[at+1:]
					if !wholeBytes(b) {
						wantNotDecoded(t, b)
						continue
					}
					m, err := gossip.Decode(b)
					if err != nil || raw(m, len(m.Updates)) != b {
						t.Errorf("P3: Decode(%q) = %+v, %v", b, m, err)
					}
				}
			}
		}
	}
}

func TestNoNumbersPanic(t *testing.T) {
	r := rand.New(rand.NewSource(3))
	numbers := []int{math.MinInt, math.MinInt32, -256, -1, 0, 1, 2, 3, 4, 5, 8, 250, 251, 255, 256, 1 << 30, 1<<30 + 1, 1<<32 - 1, 1 << 32, math.MaxInt}
	pick := func() int { return numbers[r.Intn(len(numbers))] }
	for range 20000 {
		m := api.Message{Kind: pick(), From: pick(), Inc: pick(), Seq: pick(), Target: pick()}
		for range r.Intn(10) {
			m.Updates = append(m.Updates, api.Key{Id: pick(), Inc: pick(), State: pick()})
		}
		b, err := gossip.Encode(m)
		if err != nil && (b != "" || plain.Told(err) != api.ErrPacket) {
			t.Fatalf("P1: Encode(%+v) = %q, %v", m, b, err)
		}
		if err == nil && (!wholeBytes(b) || b != raw(m, len(m.Updates))) {
			t.Fatalf("P3: Encode(%+v) = %q", m, b)
		}
	}
}

func TestNoBytesPanic(t *testing.T) {
	r := rand.New(rand.NewSource(4))
	for range 20000 {
		b := make([]byte, r.Intn(80))
		for i := range b {
			b[i] = byte(r.Intn(6))
		}
		m, err := gossip.Decode(string(b))
		if (err == nil) != wholeBytes(string(b)) {
			t.Fatalf("P3: Decode(%q) = %+v, %v", b, m, err)
		}
	}
}

func TestHandedInReadsTheSame(t *testing.T) {
	for _, kind := range kinds {
		for n := 0; n <= 9; n++ {
			// There is room behind the list: what stands there is not the callee's either.
			room := keys(12)
			m := ordinary(kind, 0)
			m.Updates = room[:n]
			first, _ := gossip.Encode(m)
			second, _ := gossip.Encode(m)
			if first != second {
				t.Errorf("P2: Encode(%+v) = %q, then %q", m, first, second)
			}
			if !reflect.DeepEqual(room, keys(12)) {
				t.Errorf("P2: what was handed in reads %v", room)
			}
		}
	}
	bad := []api.Key{{Id: 1, Inc: 1, State: 1}, {Id: 251, Inc: 0, State: -7}}
	m := ordinary(api.Ping, 0)
	m.Updates = bad
	wantNotEncoded(t, m)
	if bad[0] != (api.Key{Id: 1, Inc: 1, State: 1}) || bad[1] != (api.Key{Id: 251, Inc: 0, State: -7}) {
		t.Errorf("P2: what was handed in reads %v", bad)
	}
}

func TestHandedInIsNotKept(t *testing.T) {
	m := ordinary(api.Table, 3)
	want := raw(m, 3)
	b, _ := gossip.Encode(m)
	m.Updates[1] = api.Key{Id: 99, Inc: 99, State: api.Left}
	if b != want {
		t.Errorf("P2: bytes that were given out became %q, want %q", b, want)
	}
	if b, err := gossip.Encode(m); err != nil || b != raw(m, 3) {
		t.Errorf("P2: Encode(%+v) = %q, %v", m, b, err)
	}
}

func TestDecodedListsAreFresh(t *testing.T) {
	for _, kind := range kinds {
		b := raw(ordinary(kind, 3), 3)
		one, _ := gossip.Decode(b)
		two, _ := gossip.Decode(b)
		if len(one.Updates) != 3 || len(two.Updates) != 3 {
			t.Fatalf("P3: Decode(%q) = %+v, then %+v", b, one, two)
		}
		whole := one.Updates[:cap(one.Updates)]
		for i := range whole {
			whole[i] = api.Key{Id: 77, Inc: 77, State: api.Dead}
		}
		three, err := gossip.Decode(b)
		if want := ordinary(kind, 3); err != nil || !reflect.DeepEqual(two, want) || !reflect.DeepEqual(three, want) {
			t.Errorf("P2: writing into one answer changed others: %+v, %+v, want %+v", two, three, want)
		}
	}
}
