package pack

import (
	"bytes"
	"fmt"
	"math"
	"strings"
	"testing"

	"concord/api"
)

// numbers are each piece's edges, the number's own, and some without a shape.
func numbers() []int {
	l := []int{0, 1, -1, 63, 64, -64, -65, api.MaxSlot, api.MaxAttr, api.MaxRecord, math.MaxInt32, math.MinInt32, math.MaxInt, math.MaxInt - 1, math.MinInt, math.MinInt + 1}
	for k := range 63 {
		l = append(l, 1<<k, 1<<k-1, 1<<k+1, -1<<k, -1<<k-1, -1<<k+1)
	}
	for k, u := 0, uint64(1); k < 200; k++ {
		u = u*6364136223846793005 + 1442695040888963407
		l = append(l, int(u), int(u)>>(k%64))
	}
	return l
}

// texts are of no byte, of each byte, of lengths about a piece's edges, and of bytes that are no letters.
func texts() []string {
	l := []string{"", "ab", "\x00", "\x80\x00", "\xff\xfe", "\xc3\x28", "日本"}
	for b := range 256 {
		l = append(l, string([]byte{byte(b)}))
	}
	for _, n := range []int{62, 63, 64, 65, 8191, 8192, 8193, api.MaxRecord, 1 << 20} {
		l = append(l, strings.Repeat("\x81", n))
	}
	return l
}

// written is the number's bytes by the chapter's words, by division: nothing is moved.
func written(n int) []byte {
	var digits []byte // of twice n, or of twice what is below -1 and 1, the lowest first
	rest, carry := uint64(n), 0
	if n < 0 {
		rest, carry = uint64(-1-n), 1
	}
	// Twice the rest is told digit by digit: its first digit is the rest's by 64, doubled; the others stand as they are by 128.
	digits = append(digits, byte(rest%64*2)+byte(carry))
	for rest /= 64; rest > 0; rest /= 128 {
		digits = append(digits, byte(rest%128))
	}
	for k := range digits[:len(digits)-1] {
		digits[k] += 128
	}
	return digits
}

func TestNum(t *testing.T) { // P3.1 and the runs
	for _, c := range []struct {
		n    int
		want []byte
	}{
		{0, []byte{0}},
		{-1, []byte{1}},
		{1, []byte{2}},
		{63, []byte{0x7e}},
		{-64, []byte{0x7f}},
		{64, []byte{0x80, 1}},
		{-65, []byte{0x81, 1}},
		{8191, []byte{0xfe, 0x7f}},
		{-8192, []byte{0xff, 0x7f}},
		{8192, []byte{0x80, 0x80, 1}},
		{-8193, []byte{0x81, 0x80, 1}},
		{1 << 62, []byte{0x80, 0x80, 0x80, 0x80, 0x80, 0x80, 0x80, 0x80, 0x80, 1}},
		{1<<62 - 1, []byte{0xfe, 0xff, 0xff, 0xff, 0xff, 0xff, 0xff, 0xff, 0x7f}},
		{math.MaxInt, []byte{0xfe, 0xff, 0xff, 0xff, 0xff, 0xff, 0xff, 0xff, 0xff, 1}},
		{math.MinInt, []byte{0xff, 0xff, 0xff, 0xff, 0xff, 0xff, 0xff, 0xff, 0xff, 1}},
	} {
		if got := Num(nil, c.n); !bytes.Equal(got, c.want) {
			t.Errorf("Num(nil, %d) = %x", c.n, got)
		}
		if got := Num([]byte{9, 0x80}, c.n); !bytes.Equal(got, append([]byte{9, 0x80}, c.want...)) {
			t.Errorf("Num(0980, %d) = %x", c.n, got)
		}
	}
	if got := Num([]byte{}, -1); !bytes.Equal(got, []byte{1}) {
		t.Errorf("Num of an empty list: %x", got)
	}
}

func TestNumIsOfDigitsBy128(t *testing.T) { // P3.1
	for _, n := range numbers() {
		if got, want := Num([]byte{7}, n), append([]byte{7}, written(n)...); !bytes.Equal(got, want) {
			t.Errorf("Num(07, %d) = %x, not %x", n, got, want)
		}
	}
}

func TestText(t *testing.T) { // P3.1 and the run
	if got := Text(nil, "ab"); !bytes.Equal(got, []byte{4, 'a', 'b'}) {
		t.Errorf("Text(nil, ab) = %x", got)
	}
	for _, s := range texts() {
		want := append(written(len(s)), s...)
		if got := Text(nil, s); !bytes.Equal(got, want) {
			t.Errorf("Text of %d bytes %.9q: %.20x", len(s), s, got)
		}
		if got := Text([]byte{9, 8}, s); !bytes.Equal(got, append([]byte{9, 8}, want...)) {
			t.Errorf("Text of %d bytes %.9q behind two: %.20x", len(s), s, got)
		}
	}
}

func TestFlag(t *testing.T) { // P3.1
	for _, c := range []struct {
		b    []byte
		f    bool
		want []byte
	}{
		{nil, false, []byte{0}},
		{nil, true, []byte{1}},
		{[]byte{}, true, []byte{1}},
		{[]byte{9, 8}, false, []byte{9, 8, 0}},
		{[]byte{9, 8}, true, []byte{9, 8, 1}},
	} {
		if got := Flag(c.b, c.f); !bytes.Equal(got, c.want) {
			t.Errorf("Flag(%x, %t) = %x", c.b, c.f, got)
		}
	}
}

func TestWritersAnswerNewMemory(t *testing.T) { // P3.1, R2
	for name, write := range map[string]func(b []byte) []byte{
		"Num of a byte":  func(b []byte) []byte { return Num(b, 5) },
		"Num of ten":     func(b []byte) []byte { return Num(b, math.MinInt) },
		"Text of none":   func(b []byte) []byte { return Text(b, "") },
		"Text of some":   func(b []byte) []byte { return Text(b, "abcdef") },
		"Flag of a no":   func(b []byte) []byte { return Flag(b, false) },
		"Flag of a yes":  func(b []byte) []byte { return Flag(b, true) },
		"Num of nothing": func(b []byte) []byte { return Num(b[:0], 5) },
	} {
		room := bytes.Repeat([]byte{5}, 40)
		got := write(room[:3])
		// All of the answer's memory is written on, its spare room too: none of it may be b's.
		got = got[:cap(got)]
		for i := range got {
			got[i] = 7
		}
		if !bytes.Equal(room, bytes.Repeat([]byte{5}, 40)) {
			t.Errorf("%s shares b's memory: %x", name, room)
		}
	}
}

// What the parts of one list are must not hang on what is written behind another of them.
func TestTwoWaysOnFromOneListStayApart(t *testing.T) { // P3.1, R2
	b := Num(nil, 5)
	first, second := Num(b, 1), Text(b, "x")
	if !bytes.Equal(first, []byte{10, 2}) || !bytes.Equal(second, []byte{10, 2, 'x'}) || !bytes.Equal(b, []byte{10}) {
		t.Errorf("%x, %x behind %x", first, second, b)
	}
}

// An asked is a reading call, and what it answers: beside an error zero.
type asked struct {
	name string
	ask  func(r *Reader) any
	zero any
}

// calls are the reading calls, each so wide that it refuses no length.
func calls() []asked {
	return []asked{
		{"Num", func(r *Reader) any { return r.Num() }, 0},
		{"Text", func(r *Reader) any { return r.Text(math.MaxInt) }, ""},
		{"Flag", func(r *Reader) any { return r.Flag() }, false},
		{"Count", func(r *Reader) any { return r.Count(math.MaxInt) }, 0},
	}
}

func text(most int) asked {
	return asked{"Text", func(r *Reader) any { return r.Text(most) }, ""}
}

func counting(most int) asked {
	return asked{"Count", func(r *Reader) any { return r.Count(most) }, 0}
}

// shown is a call's answer as a message tells it: a text may be long, and no letters.
func shown(v any) string {
	if s, ok := v.(string); ok {
		return fmt.Sprintf("%d bytes %.20q", len(s), s)
	}
	return fmt.Sprint(v)
}

// refuses reads the bytes behind three flags and ahead of nothing, and looks that the call answers zero, stays, and leaves its error.
func refuses(t *testing.T, b []byte, a asked, why api.Errno) {
	t.Helper()
	r := Read(append([]byte{1, 0, 1}, b...))
	if !r.Flag() || r.Flag() || !r.Flag() || r.Wrong() != api.OK || r.At() != 3 {
		t.Fatalf("flags ahead: %d at %d", r.Wrong(), r.At())
	}
	got := a.ask(r)
	if got != a.zero || r.Wrong() != why || r.At() != 3 || r.End() != why {
		t.Errorf("%s of %.20x: %s, %d, not %d, at %d", a.name, b, shown(got), r.Wrong(), why, r.At()-3)
	}
}

// takes reads the bytes behind a flag, with the same and others behind them, and looks for the answer and the place.
func takes(t *testing.T, b []byte, a asked, want any) {
	t.Helper()
	for _, behind := range [][]byte{nil, {0}, {0x80}, {0xff, 0xff}, b} {
		r := Read(append(append([]byte{1}, b...), behind...))
		r.Flag()
		if got := a.ask(r); got != want || r.Wrong() != api.OK || r.At() != 1+len(b) {
			t.Errorf("%s of %.20x, %.20x behind: %s, %d at %d", a.name, b, behind, shown(got), r.Wrong(), r.At()-1)
		}
	}
}

// num and flag are the calls that have no width.
func num() asked  { return calls()[0] }
func flag() asked { return calls()[2] }

func TestReadBeginsAtTheFirstByte(t *testing.T) { // P3.2
	for _, b := range [][]byte{nil, {}, {1}, {0x80}, {4, 'a', 'b'}} {
		if r := Read(b); r.At() != 0 || r.Wrong() != api.OK {
			t.Errorf("of %x: at %d, %d", b, r.At(), r.Wrong())
		}
	}
}

func TestAtIsBehindWhatWasRead(t *testing.T) { // P3.2
	b := Text(Num(Flag(Num(nil, 64), true), -1), strings.Repeat("x", 64))
	r := Read(b)
	var places []int
	for range 2 {
		r.Num()
		places = append(places, r.At(), r.At())
		r.Flag()
		places = append(places, r.At())
	}
	want := []int{2, 2, 3, 4, 4, 4} // the text's length is no flag: the reader stays
	for i := range want {
		if places[i] != want[i] {
			t.Fatalf("places %d, not %d", places, want)
		}
	}
	if r.Wrong() != api.ErrForm {
		t.Errorf("a length as a flag: %d", r.Wrong())
	}
}

// A wrong is bytes and a call whose first error is why.
type wrong struct {
	b   []byte
	ask func(r *Reader)
	why api.Errno
}

func wrongs() []wrong {
	return []wrong{
		{[]byte{0x80, 0, 2, 2, 1}, func(r *Reader) { r.Num() }, api.ErrForm},
		{[]byte{0x80}, func(r *Reader) { r.Num() }, api.ErrShort},
		{[]byte{2, 'a', 2, 1}, func(r *Reader) { r.Text(0) }, api.ErrLong},
		{[]byte{8, 'a', 2, 1}, func(r *Reader) { r.Text(9) }, api.ErrShort},
		{[]byte{0x80}, func(r *Reader) { r.Text(9) }, api.ErrShort},
		{[]byte{0x80, 0, 1}, func(r *Reader) { r.Text(9) }, api.ErrForm},
		{[]byte{2, 1, 1}, func(r *Reader) { r.Flag() }, api.ErrForm},
		{nil, func(r *Reader) { r.Flag() }, api.ErrShort},
		{[]byte{4, 1, 1}, func(r *Reader) { r.Count(1) }, api.ErrLong},
		{nil, func(r *Reader) { r.Count(1) }, api.ErrShort},
		{[]byte{1, 1, 1}, func(r *Reader) { r.End() }, api.ErrTail},
		{[]byte{1, 1, 1}, func(r *Reader) { r.Fail() }, api.ErrForm},
		{nil, func(r *Reader) { r.Fail() }, api.ErrForm},
	}
}

func TestTheFirstErrorStays(t *testing.T) { // P3.2, P3.4
	later := append(calls(), text(-1), counting(-1), text(1), counting(1))
	for i, w := range wrongs() {
		for _, a := range later {
			r := Read(w.b)
			w.ask(r)
			if r.Wrong() != w.why || r.At() != 0 {
				t.Fatalf("%d: %d at %d", i, r.Wrong(), r.At())
			}
			for range 2 {
				if got := a.ask(r); got != a.zero || r.At() != 0 || r.Wrong() != w.why {
					t.Errorf("%d, then %s: %s, %d at %d", i, a.name, shown(got), r.Wrong(), r.At())
				}
			}
			r.Fail()
			if r.Wrong() != w.why || r.End() != w.why || r.Wrong() != w.why {
				t.Errorf("%d, then Fail, End: %d, %d", i, r.Wrong(), r.End())
			}
		}
	}
}

func TestAnErrorStaysWhereTheBytesWouldEnd(t *testing.T) { // P3.2, P3.4
	r := Read([]byte{2, 1})
	r.Num()
	r.Count(-1)
	if r.Flag() || r.Wrong() != api.ErrLong || r.At() != 1 || r.End() != api.ErrLong {
		t.Errorf("%d at %d", r.Wrong(), r.At())
	}
	r = Read([]byte{1})
	r.Flag()
	r.Flag()
	if r.Wrong() != api.ErrShort || r.At() != 1 || r.End() != api.ErrShort {
		t.Errorf("behind the last byte: %d at %d", r.Wrong(), r.At())
	}
}

func TestReadNum(t *testing.T) { // P3.3 and the runs
	nines := bytes.Repeat([]byte{0x80}, 9)
	with := func(l ...byte) []byte { return append(bytes.Clone(nines), l...) }
	for _, c := range []struct {
		b   []byte
		why api.Errno
	}{
		{[]byte{0x80, 0}, api.ErrForm},
		{[]byte{0x80}, api.ErrShort},
		{nil, api.ErrShort},
		{[]byte{0xff, 0}, api.ErrForm},
		{[]byte{0x80, 0, 0x80}, api.ErrForm},
		{[]byte{0x80, 0x80, 0}, api.ErrForm},
		{[]byte{0x81, 0xff, 0, 1}, api.ErrForm},
		{[]byte{0x80, 0x80}, api.ErrShort},
		{[]byte{0xff, 0xff, 0xff, 0xff, 0xff, 0xff, 0xff, 0xff}, api.ErrShort},
		{nines, api.ErrShort},
		{with(0), api.ErrForm},
		{with(2), api.ErrForm},
		{with(0x7f), api.ErrForm},
		{with(0x80), api.ErrForm}, // the tenth comes ahead of the end
		{with(0x81), api.ErrForm},
		{with(0x81, 1), api.ErrForm},
		{with(0xff, 0, 0), api.ErrForm},
		{bytes.Repeat([]byte{0xff}, 40), api.ErrForm},
		{append(bytes.Repeat([]byte{0xff}, 8), 0), api.ErrForm},
	} {
		refuses(t, c.b, num(), c.why)
		refuses(t, c.b, text(math.MaxInt), c.why)
		refuses(t, c.b, text(-1), c.why)
		refuses(t, c.b, counting(math.MaxInt), c.why)
		refuses(t, c.b, counting(math.MinInt), c.why)
	}
	takes(t, []byte{0}, num(), 0)
	takes(t, []byte{0x80, 1}, num(), 64)
	takes(t, with(1), num(), 1<<62)
	takes(t, append(bytes.Repeat([]byte{0xff}, 9), 1), num(), math.MinInt)
	takes(t, append(bytes.Repeat([]byte{0xff}, 8), 1), num(), -1<<56)
}

func TestANumberCutOffIsShort(t *testing.T) { // P3.3
	for _, n := range numbers() {
		b := Num(nil, n)
		takes(t, b, num(), n)
		for cut := range b {
			refuses(t, b[:cut], num(), api.ErrShort)
		}
	}
}

func TestReadText(t *testing.T) { // P3.3 and the run
	for _, c := range []struct {
		b    []byte
		most int
		why  api.Errno
	}{
		{[]byte{4, 'a', 'b'}, 1, api.ErrLong},
		{[]byte{4, 'a', 'b'}, 0, api.ErrLong},
		{[]byte{4, 'a', 'b'}, -1, api.ErrLong},
		{[]byte{4, 'a', 'b'}, math.MinInt, api.ErrLong},
		{[]byte{4, 'a'}, 1, api.ErrLong}, // ahead of ErrShort
		{[]byte{4, 'a'}, 2, api.ErrShort},
		{[]byte{4}, math.MaxInt, api.ErrShort},
		{[]byte{0}, -1, api.ErrLong},
		{[]byte{1}, math.MaxInt, api.ErrLong},
		{[]byte{3, 'a', 'b'}, math.MaxInt, api.ErrLong},
		{Num(nil, math.MinInt), math.MaxInt, api.ErrLong},
		{Num(nil, math.MaxInt), math.MaxInt - 1, api.ErrLong},
		{Num(nil, math.MaxInt), math.MaxInt, api.ErrShort},
		{append(Num(nil, math.MaxInt-10), "abcdef"...), math.MaxInt, api.ErrShort},
		{append(Num(nil, 1<<40), 'a'), math.MaxInt, api.ErrShort},
	} {
		refuses(t, c.b, text(c.most), c.why)
	}
	for _, s := range texts() {
		b := Text(nil, s)
		takes(t, b, text(len(s)), s)
		takes(t, b, text(len(s)+1), s)
		takes(t, b, text(math.MaxInt), s)
		refuses(t, b, text(len(s)-1), api.ErrLong)
		refuses(t, b[:len(b)-1], text(len(s)), api.ErrShort)
	}
}

func TestReadFlag(t *testing.T) { // P3.3 and the run
	refuses(t, nil, flag(), api.ErrShort)
	takes(t, []byte{0}, flag(), false)
	takes(t, []byte{1}, flag(), true)
	for b := 2; b < 256; b++ {
		refuses(t, []byte{byte(b)}, flag(), api.ErrForm)
		refuses(t, []byte{byte(b), 1}, flag(), api.ErrForm)
	}
}

func TestReadCount(t *testing.T) { // P3.3
	for _, c := range []struct {
		n, most int
		fits    bool
	}{
		{0, 0, true},
		{0, 1, true},
		{1, 1, true},
		{1, 0, false},
		{0, -1, false},
		{0, math.MinInt, false},
		{-1, 5, false},
		{-1, -1, false},
		{-2, -1, false},
		{64, 64, true},
		{65, 64, false},
		{api.MaxSlot, api.MaxSlot, true},
		{api.MaxSlot + 1, api.MaxSlot, false},
		{math.MaxInt, math.MaxInt, true},
		{math.MaxInt, math.MaxInt - 1, false},
		{math.MinInt, math.MaxInt, false},
		{math.MinInt, math.MinInt, false},
	} {
		if c.fits {
			takes(t, Num(nil, c.n), counting(c.most), c.n)
		} else {
			refuses(t, Num(nil, c.n), counting(c.most), api.ErrLong)
		}
	}
}

func TestEnd(t *testing.T) { // P3.4
	for _, b := range [][]byte{nil, {}} {
		r := Read(b)
		if r.End() != api.OK || r.Wrong() != api.OK || r.At() != 0 {
			t.Errorf("of nothing: %d", r.Wrong())
		}
	}
	r := Read([]byte{1, 1})
	r.Flag()
	if r.End() != api.ErrTail || r.End() != api.ErrTail || r.Wrong() != api.ErrTail || r.At() != 1 {
		t.Errorf("a byte left over: %d at %d", r.Wrong(), r.At())
	}
	r = Read([]byte{1, 1})
	r.Flag()
	r.Flag()
	if r.End() != api.OK || r.End() != api.OK || r.Wrong() != api.OK || r.At() != 2 {
		t.Errorf("all was read: %d at %d", r.Wrong(), r.At())
	}
	// An end that was right is no end of the reading: what comes next is short.
	if r.Flag() || r.Wrong() != api.ErrShort || r.End() != api.ErrShort {
		t.Errorf("behind the end: %d", r.Wrong())
	}
}

func TestFail(t *testing.T) { // P3.4
	r := Read([]byte{1, 1})
	r.Flag()
	r.Fail()
	if r.Wrong() != api.ErrForm || r.At() != 1 || r.Flag() || r.End() != api.ErrForm {
		t.Errorf("%d at %d", r.Wrong(), r.At())
	}
	r = Read(nil)
	r.Flag()
	r.Fail()
	if r.Wrong() != api.ErrShort {
		t.Errorf("behind an error: %d", r.Wrong())
	}
}

func TestReadKeepsNothingOfTheCallers(t *testing.T) { // R2, R5
	b := []byte{4, 'a', 'b', 2, 1, 9}
	r := Read(b[:5])
	for i := range b {
		b[i] = 0
	}
	if s, n, f := r.Text(2), r.Num(), r.Flag(); s != "ab" || n != 1 || !f || r.End() != api.OK {
		t.Errorf("changed behind its back: %q, %d, %t, %d", s, n, f, r.Wrong())
	}
	if !bytes.Equal(b, make([]byte, 6)) {
		t.Errorf("written: %x", b)
	}
}

func TestNoSpareRoomIsRead(t *testing.T) { // R5
	room := []byte{4, 'a', 'b', 1}
	r := Read(room[:2])
	if s := r.Text(9); s != "" || r.Wrong() != api.ErrShort {
		t.Errorf("a text: %q, %d", s, r.Wrong())
	}
	r = Read([]byte{0x80, 1}[:1])
	if n := r.Num(); n != 0 || r.Wrong() != api.ErrShort {
		t.Errorf("a number: %d, %d", n, r.Wrong())
	}
	r = Read(room[3:3])
	if r.Flag() || r.Wrong() != api.ErrShort {
		t.Errorf("a flag: %d", r.Wrong())
	}
	if !bytes.Equal(room, []byte{4, 'a', 'b', 1}) {
		t.Errorf("changed: %x", room)
	}
}

func TestReadersStandApart(t *testing.T) { // R2
	b := []byte{2, 4, 6}
	r, q := Read(b), Read(b)
	r.Num()
	r.Flag()
	if q.At() != 0 || q.Num() != 1 || q.Num() != 2 || q.Wrong() != api.OK {
		t.Errorf("one moves the other: at %d, %d", q.At(), q.Wrong())
	}
}

// A chance answers numbers below n that follow no short rule to the eye.
type chance uint64

func (c *chance) below(n int) int {
	*c = *c*6364136223846793005 + 1442695040888963407
	return int(uint64(*c) >> 33 % uint64(n))
}

// An item is what is written and read at once.
type item struct {
	kind, n int
	s       string
	f       bool
}

func (i item) put(b []byte) []byte {
	switch i.kind {
	case 0, 3:
		return Num(b, i.n)
	case 1:
		return Text(b, i.s)
	}
	return Flag(b, i.f)
}

// get reads an item of the kind.
func get(r *Reader, kind int) item {
	switch kind {
	case 0:
		return item{kind: kind, n: r.Num()}
	case 1:
		return item{kind: kind, s: r.Text(math.MaxInt)}
	case 2:
		return item{kind: kind, f: r.Flag()}
	}
	return item{kind: kind, n: r.Count(math.MaxInt)}
}

// items are some items, one behind the other.
func items(c *chance, all []int, words []string) []item {
	l := make([]item, c.below(6))
	for i := range l {
		switch l[i].kind = c.below(4); l[i].kind {
		case 0:
			l[i].n = all[c.below(len(all))]
		case 1:
			l[i].s = words[c.below(len(words))]
		case 2:
			l[i].f = c.below(2) == 1
		case 3:
			l[i].n = max(all[c.below(len(all))], 0)
		}
	}
	return l
}

func TestWhatIsWrittenIsReadAsItWas(t *testing.T) { // P3.5
	c, all, words := chance(1), numbers(), []string{"", "a", "\x00\xff", strings.Repeat("z", 64)}
	for round := range 2000 {
		l := items(&c, all, words)
		var b []byte
		for _, i := range l {
			b = i.put(b)
		}
		r := Read(b)
		for k, i := range l {
			if got := get(r, i.kind); got != i {
				t.Fatalf("%d: item %d: %v, not %v", round, k, got, i)
			}
		}
		if r.End() != api.OK || r.At() != len(b) {
			t.Fatalf("%d: %d at %d of %d", round, r.End(), r.At(), len(b))
		}
		for cut := range b {
			r := Read(b[:cut])
			for _, i := range l {
				get(r, i.kind)
			}
			if r.End() != api.ErrShort {
				t.Fatalf("%d: the first %d of %x are taken: %d", round, cut, b, r.End())
			}
		}
	}
}

// oneForm reads an item of each kind, and looks that what is taken whole is written so.
func oneForm(t *testing.T, b []byte) {
	t.Helper()
	for kind := range 4 {
		r := Read(b)
		i := get(r, kind)
		if r.End() != api.OK {
			continue
		}
		if got := i.put(nil); !bytes.Equal(got, b) {
			t.Fatalf("%x is taken as %v, which is %x", b, i, got)
		}
	}
}

func TestWhatIsTakenWholeIsWrittenSo(t *testing.T) { // P3.5
	oneForm(t, nil)
	for x := range 256 {
		oneForm(t, []byte{byte(x)})
		for y := range 256 {
			oneForm(t, []byte{byte(x), byte(y)})
		}
	}
	edges := []byte{0, 1, 2, 0x7f, 0x80, 0x81, 0xff}
	for _, x := range edges {
		for _, y := range edges {
			for _, z := range edges {
				oneForm(t, []byte{x, y, z})
				for n := range 9 {
					oneForm(t, append(bytes.Repeat([]byte{0x80}, n), x, y, z))
					oneForm(t, append(bytes.Repeat([]byte{0xff}, n), x, y, z))
				}
			}
		}
	}
}

func TestRowsTakenWholeAreWrittenSo(t *testing.T) { // P3.5
	c := chance(5)
	edges := []byte{0, 0, 1, 1, 2, 3, 4, 6, 0x7f, 0x80, 0x81, 0xff}
	whole := 0
	for range 100000 {
		b := make([]byte, c.below(8))
		for i := range b {
			b[i] = edges[c.below(len(edges))]
		}
		r, again := Read(b), []byte(nil)
		for range c.below(5) {
			again = get(r, c.below(4)).put(again)
		}
		if r.End() != api.OK {
			continue
		}
		whole++
		if !bytes.Equal(again, b) {
			t.Fatalf("%x is taken as %x", b, again)
		}
	}
	if whole < 1000 {
		t.Errorf("only %d were taken: this says little", whole)
	}
}
