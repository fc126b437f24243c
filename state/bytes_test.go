package state

import (
	"bytes"
	"encoding/binary"
	"math"
	"slices"
	"strings"
	"testing"

	"concord/api"
)

func TestPut(t *testing.T) { // P13.4
	for i, s := range rights() {
		if got := Put(s); !bytes.Equal(got, bytesOf(s)) {
			t.Errorf("%d: Put(%v) = % x; not % x", i, s, got, bytesOf(s))
		}
	}
	for i, s := range wrongs() {
		if got := Put(s); len(got) != 0 {
			t.Errorf("%d: Put(%v), which isn't right, = % x", i, s, got)
		}
	}
}

func TestPutByteByByte(t *testing.T) { // P13.4, by hand
	s := of(pair("a", "1", 1), pair("bb", "", 64))
	s.Owners[0] = api.Owner{Seq: 1, Reply: api.Reply{Version: 1}}
	s.Owners[2] = api.Owner{Seq: 64, Reply: api.Reply{Why: api.ErrFull, Found: true, Value: "v", Version: 2, Pairs: []api.Pair{pair("c", "xy", 3)}}}
	want := []byte{
		4, 2, 'a', 2, '1', 2, 4, 'b', 'b', 0, 0x80, 1,
		2, 0, 0, 0, 2, 0,
		0,
		0x80, 1, 14, 1, 2, 'v', 4, 2, 2, 'c', 4, 'x', 'y', 6,
		0, 0, 0, 0, 0,
	}
	if got := Put(s); !bytes.Equal(got, want) {
		t.Errorf("Put = % x; not % x", got, want)
	}
	if got, why := Get(want); why != api.OK || !equal(got, s) {
		t.Errorf("Get = %v, %d", got, why)
	}
	if got := Put(api.State{}); !bytes.Equal(got, make([]byte, 9)) {
		t.Errorf("Put(nothing) = % x", got)
	}
	if got, why := Get(make([]byte, 9)); why != api.OK || !equal(got, api.State{}) {
		t.Errorf("Get(nothing) = %v, %d", got, why)
	}
}

func TestGetOfPut(t *testing.T) { // P13.4, P13.5
	for i, s := range rights() {
		got, why := Get(Put(s))
		if why != api.OK || !equal(got, s) {
			t.Errorf("%d: Get(Put(%v)) = %v, %d", i, s, got, why)
		}
	}
}

func TestGetOfWhatIsntRight(t *testing.T) { // P13.4: in the form, but no right state
	for i, s := range wrongs() {
		want := wanted(bytesOf(s))
		got, why := Get(bytesOf(s))
		if why != want || !equal(got, api.State{}) && why != api.OK {
			t.Errorf("%d: Get of %v = %v, %d; not %d", i, s, got, why, want)
		}
		// Of a client at 0 nothing is written: what is left of such a state may be right.
		if why == api.OK && !bytes.Equal(Put(got), bytesOf(s)) {
			t.Errorf("%d: Get of %v = %v", i, s, got)
		}
	}
}

func TestGetByWrongs(t *testing.T) { // P13.4
	b := slices.Concat[[]byte]
	k17, v65 := text(strings.Repeat("k", 17)), text(strings.Repeat("v", 65))
	none := number(0)
	rest := make([]byte, 8)
	eleven := slices.Repeat([]byte{0x80}, 11)
	// Of one client: its number, and what stands between the count of pairs and the other seven.
	client := func(l ...[]byte) []byte { return b(none, b(l...), rest[:7]) }
	one := b(number(1), text("a"), text("1"))
	for i, c := range []struct {
		b    []byte
		want api.Errno
	}{
		{nil, api.ErrShort},
		{[]byte{}, api.ErrShort},
		{rest, api.ErrShort},
		{b(none, rest, none), api.ErrTail},
		{b(none, rest, []byte{0x80}), api.ErrTail},
		{[]byte{0x80}, api.ErrShort},
		{b([]byte{0x80, 0}, rest), api.ErrForm},
		{eleven, api.ErrForm},
		{eleven[:10], api.ErrForm},
		{eleven[:9], api.ErrShort},
		{b(number(-1), rest), api.ErrLong},
		{b(number(33), rest), api.ErrLong},
		{b(number(math.MaxInt), rest), api.ErrLong},
		{b(number(math.MinInt), rest), api.ErrLong},
		{number(33), api.ErrLong},
		{b(number(32), rest), api.ErrShort},
		{b(number(1)), api.ErrShort},
		// Of a pair.
		{b(one, number(1), rest), api.OK},
		{b(one, number(1<<40), rest), api.OK},
		{b(one, number(math.MaxInt), rest), api.OK},
		{b(one, number(0), rest), api.ErrForm},
		{b(one, number(-1), rest), api.ErrForm},
		{b(one, number(math.MinInt), rest), api.ErrForm},
		{b(one, number(0), rest, none), api.ErrTail}, // End is asked ahead of what is right
		{b(one, number(0), rest[1:]), api.ErrShort},
		{b(one, []byte{0x82, 0}, rest), api.ErrForm},
		{b(one), api.ErrShort},
		{b(number(1), text(""), text("1"), number(1), rest), api.ErrForm},
		{b(number(1), text(strings.Repeat("k", 16)), text(strings.Repeat("v", 64)), number(1), rest), api.OK},
		{b(number(1), k17, text("1"), number(1), rest), api.ErrLong},
		{b(number(1), number(-1), text("1"), number(1), rest), api.ErrLong},
		{b(number(1), text("a"), v65, number(1), rest), api.ErrLong},
		{b(number(1), text("a"), number(-1), number(1), rest), api.ErrLong},
		{b(number(1), number(16), []byte("a")), api.ErrShort},
		{b(number(1), text("a"), number(64), []byte("1")), api.ErrShort},
		{b(number(1), number(17), []byte("a")), api.ErrLong},
		{b(number(2), text("a"), text(""), number(1), text("b"), text(""), number(1), rest), api.OK},
		{b(number(2), text("b"), text(""), number(1), text("a"), text(""), number(1), rest), api.ErrForm},
		{b(number(2), text("a"), text(""), number(1), text("a"), text(""), number(1), rest), api.ErrForm},
		{b(bytesOfPairs(pairs(32)), rest), api.OK},
		{b(bytesOfPairs(pairs(33)), rest), api.ErrLong},
		// Of a client.
		{client(number(1), none, none, text(""), none, none), api.OK},
		{client(number(1<<40), number(7), []byte{1}, text(""), none, none), api.OK},
		{client(number(1<<40+1), none, none, text(""), none, none), api.ErrForm},
		{client(number(-1), none, none, text(""), none, none), api.ErrForm},
		{client(number(math.MinInt), none, none, text(""), none, none), api.ErrForm},
		{client(number(math.MaxInt), none, none, text(""), none, none), api.ErrForm},
		{client(number(-1)), api.ErrShort},
		{client(number(1), none, none, text(""), none), api.ErrShort},
		{client([]byte{0x80, 0}), api.ErrForm},
		{client(number(1), number(1), none, text(""), none, none), api.ErrForm},
		{client(number(1), number(9), none, text(""), none, none), api.ErrForm},
		{client(number(1), number(-1), none, text(""), none, none), api.ErrForm},
		{client(number(1), number(-7), none, text(""), none, none), api.ErrForm},
		{client(number(1), number(7+1<<32), none, text(""), none, none), api.ErrForm},
		{client(number(1), number(math.MaxInt), none, text(""), none, none), api.ErrForm},
		{client(number(1), eleven, none, text(""), none, none), api.ErrForm},
		{client(number(1), none, []byte{2}, text(""), none, none), api.ErrForm},
		{client(number(1), none, []byte{0x80, 1}, text(""), none, none), api.ErrForm},
		{client(number(1), none, []byte{1}, text(""), none, none), api.OK},
		{client(number(1), none, none, text(strings.Repeat("v", 64)), none, none), api.OK},
		{client(number(1), none, none, v65, none, none), api.ErrLong},
		{client(number(1), none, none, number(-1), none, none), api.ErrLong},
		{client(number(1), none, none, text(""), number(math.MaxInt), none), api.OK},
		{client(number(1), none, none, text(""), number(-1), none), api.ErrForm},
		{client(number(1), none, none, text(""), none, number(-1)), api.ErrLong},
		{client(number(1), none, none, text(""), none, number(9)), api.ErrLong},
		{client(number(1), none, none, text(""), none, bytesOfPairs(pairs(8))), api.OK},
		{client(number(1), none, none, text(""), none, bytesOfPairs(pairs(9))), api.ErrLong},
		{client(number(1), none, none, text(""), none, one, number(1)), api.OK},
		{client(number(1), none, none, text(""), none, one, number(0)), api.ErrForm},
		{client(number(1), none, none, text(""), none, number(1), k17, text(""), number(1)), api.ErrLong},
		{client(number(1), none, none, text(""), none, number(1), text("a"), v65, number(1)), api.ErrLong},
		{client(number(1), none, none, text(""), none, number(1), text(""), text(""), number(1)), api.ErrForm},
		// The first error stays, whatever comes behind it.
		{b(number(33), eleven), api.ErrLong},
		{client([]byte{0x80, 0}, k17), api.ErrForm},
		{client(number(1), none, []byte{2}, v65, none, number(9)), api.ErrForm},
		{client(number(1), none, none, v65, []byte{0x80, 0}), api.ErrLong},
	} {
		got, why := Get(c.b)
		if why != c.want || wanted(c.b) != c.want {
			t.Errorf("%d: Get(% x) = %v, %d; not %d", i, c.b, got, why, c.want)
		}
		if why != api.OK && !equal(got, api.State{}) || why == api.OK && !bytes.Equal(bytesOf(got), c.b) {
			t.Errorf("%d: Get(% x) = %v, %d", i, c.b, got, why)
		}
	}
}

func TestGetOfABeginning(t *testing.T) { // P13.4
	for i, s := range rights() {
		b := bytesOf(s)
		for n := range len(b) {
			if got, why := Get(b[:n]); why != api.ErrShort || !equal(got, api.State{}) {
				t.Errorf("%d: Get of the first %d of %d = %v, %d", i, n, len(b), got, why)
			}
		}
		for n := range 256 {
			if got, why := Get(append(slices.Clone(b), byte(n))); why != api.ErrTail || !equal(got, api.State{}) {
				t.Errorf("%d: Get with %d behind it = %v, %d", i, n, got, why)
			}
		}
	}
}

// asker asks for what stands in bytes, by the words of layer 3.
type asker struct {
	b   []byte
	why api.Errno
}

func (a *asker) take(n int, why api.Errno) []byte {
	if why == api.OK && n > len(a.b) {
		why = api.ErrShort
	}
	if a.why == api.OK {
		a.why = why
	}
	if a.why != api.OK {
		return nil
	}
	taken := a.b[:n]
	a.b = a.b[n:]
	return taken
}

func (a *asker) num() int {
	if a.why != api.OK {
		return 0
	}
	for k, p := range a.b {
		if k > 0 && p == 0 || k == 9 && p > 1 {
			a.take(0, api.ErrForm)
			return 0
		}
		if p < 128 {
			n, _ := binary.Varint(a.take(k+1, api.OK))
			return int(n)
		}
	}
	a.take(0, api.ErrShort)
	return 0
}

func (a *asker) count(most int) int {
	n := a.num()
	if n < 0 || n > most {
		a.take(0, api.ErrLong)
		return 0
	}
	return n
}

func (a *asker) text(most int) string { return string(a.take(a.count(most), api.OK)) }

func (a *asker) flag() bool {
	f := a.take(1, api.OK)
	if len(f) == 1 && f[0] > 1 {
		a.take(0, api.ErrForm)
	}
	return len(f) == 1 && f[0] == 1
}

func (a *asker) pairs(most int) []api.Pair {
	var l []api.Pair
	for range a.count(most) {
		key := a.text(16)
		value := a.text(64)
		l = append(l, pair(key, value, a.num()))
	}
	return l
}

// wanted is why Get refuses b, by P13.4's words.
func wanted(b []byte) api.Errno {
	a := asker{b: b}
	s := api.State{Pairs: a.pairs(32)}
	for k := range 8 {
		if s.Owners[k].Seq = a.num(); s.Owners[k].Seq == 0 {
			continue
		}
		r := &s.Owners[k].Reply
		r.Why = api.Errno(a.num())
		r.Found = a.flag()
		r.Value = a.text(64)
		r.Version = a.num()
		r.Pairs = a.pairs(8)
	}
	switch {
	case a.why != api.OK:
		return a.why
	case len(a.b) > 0:
		return api.ErrTail
	case !isRight(s):
		return api.ErrForm
	}
	return api.OK
}

func TestGetOfSenselessBytes(t *testing.T) { // P13.4, P13.5
	c := chance(31)
	told := map[api.Errno]int{}
	check := func(b []byte) {
		was := slices.Clone(b)
		want := wanted(b)
		got, why := Get(b)
		told[why]++
		if why != want || why != api.OK && !equal(got, api.State{}) {
			t.Fatalf("Get(% x) = %v, %d; not %d", was, got, why, want)
		}
		if why == api.OK && (!isRight(got) || !bytes.Equal(Put(got), was)) {
			t.Fatalf("Get(% x) = %v, of which Put is % x", was, got, Put(got))
		}
		if !bytes.Equal(b, was) {
			t.Fatalf("Get changes % x to % x", was, b)
		}
	}
	for range 30000 {
		b := bytesOf(c.state())
		for range 1 + c.below(2) {
			at := c.below(len(b))
			switch c.below(4) {
			case 0:
				b[at] = one(&c, 0, 1, 2, 14, 64, 128, byte(c.below(256)))
			case 1:
				b = slices.Delete(b, at, at+1)
			case 2:
				b = slices.Insert(b, at, one(&c, 0, 1, 2, 128, byte(c.below(256))))
			case 3:
				b[at] ^= 1 << c.below(8)
			}
			if len(b) == 0 {
				break
			}
		}
		check(b)
	}
	for range 30000 {
		b := make([]byte, c.below(40))
		for k := range b {
			b[k] = one(&c, 0, 0, 0, 1, 2, 4, 6, 'a', 128, byte(c.below(256)))
		}
		check(b)
	}
	for _, why := range []api.Errno{api.OK, api.ErrLong, api.ErrShort, api.ErrForm, api.ErrTail} {
		if told[why] < 100 {
			t.Errorf("%d is told %d times only", why, told[why])
		}
	}
}

func TestMemoryOfBytes(t *testing.T) { // R2, R5
	s, wholes := roomy(rich())
	before := deep(wholes)
	b := Put(s)
	if !bytes.Equal(b, bytesOf(rich())) {
		t.Errorf("Put of lists with room = % x", b)
	}
	first, _ := Get(b)
	again, why := Get(b)
	whole := slices.Concat([]byte("ahead"), b, []byte("behind"))
	within, _ := Get(whole[5 : 5+len(b)])
	if why != api.OK || !equal(within, rich()) {
		t.Errorf("Get from within = %v", within)
	}
	other := Put(s)
	for k := range b[:cap(b)] {
		b[:cap(b)][k] = 'x'
	}
	if !bytes.Equal(other, bytesOf(rich())) {
		t.Error("two answers of Put share memory")
	}
	if !equal(first, rich()) {
		t.Errorf("Get shares memory with what is given: %v", first)
	}
	eachApart(t, "Get", lists(first))
	if !equal(again, rich()) || !sameLists(wholes, before) {
		t.Error("Get's answers share memory")
	}
}
