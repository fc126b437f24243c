package log

import (
	"bytes"
	"slices"
	"strings"
	"testing"

	"concord/api"
	"concord/letter"
)

func TestRecord(t *testing.T) { // P16.6
	for _, c := range []struct {
		i    api.Inst
		c    api.Cell
		want string
	}{
		{at(0, 1), api.Cell{}, "00 02 00 00 00"},
		{at(1, 2), promised(ballot(1<<30, 6)), "02 04 00 80 80 80 80 08 0C"},
		{at(6, 1<<30), api.Cell{Status: api.Preaccepted}, "0C 80 80 80 80 08 02 00 00 00 00 00 00 00 00 00 00 00 00 00 00"},
		{at(2, 64), first(api.Preaccepted), "04 80 01 02 00 00 00 00 02 02 04 02 61 06 02 00 0A 00 00 00 00 00"},
		{at(2, 63), same(ballot(64, 6)), "04 7E 02 80 01 0C 00 00 02 02 04 02 61 06 02 00 0A 00 00 00 00 01"},
		{at(5, 3), stands(api.Accepted, ballot(4, 2), ballot(3, 5)), "0A 06 04 08 04 06 0A 02 02 04 02 61 06 02 00 0A 00 00 00 00 00"},
		{at(3, 3), api.Cell{Status: api.Committed, Attr: attr(0, 0, 0, 0, 2)}, "06 06 06 00 00 00 00 00 00 00 00 00 04 00 00 00 00"},
	} {
		if got := Record(c.i, c.c); !bytes.Equal(got, unhex(t, c.want)) {
			t.Errorf("Record(%d, %+v) = % x", c.i, c.c, got)
		}
	}
	for _, c := range cells() {
		for _, i := range []api.Inst{at(0, 1), at(6, 1<<30)} {
			want := letter.PutCell(numbers(i.Replica, i.Slot), c)
			if got := Record(i, c); !bytes.Equal(got, want) || !bytes.Equal(got, bytesOf(i, c)) {
				t.Errorf("Record(%d, %+v) = % x", i, c, got)
			}
		}
	}
}

func TestRecordOfWhatIsNotRight(t *testing.T) { // P16.6: any instance has its numbers; a cell that isn't right has no bytes
	for _, replica := range edges() {
		for _, slot := range edges() {
			i := at(replica, slot)
			if got := Record(i, first(api.Committed)); !bytes.Equal(got, bytesOf(i, first(api.Committed))) {
				t.Errorf("Record(%d) = % x", i, got)
			}
			if got := Record(i, api.Cell{Status: 4}); !bytes.Equal(got, numbers(replica, slot)) {
				t.Errorf("Record(%d) of a wrong cell = % x", i, got)
			}
		}
	}
	for _, c := range wrongCells() {
		b := Record(at(1, 2), c)
		if !bytes.Equal(b, []byte{2, 4}) {
			t.Errorf("Record of %+v = % x", c, b)
		}
		if i, c, why := Replay(b); i != (api.Inst{}) || c != (api.Cell{}) || why != api.ErrShort {
			t.Errorf("Replay of it = %d, %+v, %d", i, c, why)
		}
	}
}

// replayed asks Replay, and tells what isn't as it must be.
func replayed(t *testing.T, b []byte, i api.Inst, c api.Cell, why api.Errno) {
	t.Helper()
	gotI, gotC, got := Replay(b)
	if gotI != i || gotC != c || got != why {
		t.Errorf("Replay of % x = %d, %+v, %d; not %d, %+v, %d", b, gotI, gotC, got, i, c, why)
	}
}

// rejected asks Replay for an error, and beside it nothing.
func rejected(t *testing.T, b []byte, why api.Errno) {
	t.Helper()
	replayed(t, b, api.Inst{}, api.Cell{}, why)
}

func TestReplayOfRecordIsWhatWasWritten(t *testing.T) { // P16.6, P16.7
	for _, c := range cells() {
		for replica := range api.MaxNodes {
			for _, slot := range []int{1, 2, 63, 64, 1<<30 - 1, 1 << 30} {
				replayed(t, Record(at(replica, slot), c), at(replica, slot), c, api.OK)
			}
		}
	}
}

func TestReplayOfABeginning(t *testing.T) { // P16.6
	for _, c := range cells() {
		b := bytesOf(at(6, 1<<30), c)
		for n := range len(b) {
			rejected(t, b[:n], api.ErrShort)
		}
	}
	rejected(t, nil, api.ErrShort)
	rejected(t, []byte{}, api.ErrShort)
}

func TestReplayOfWhatIsLeftOver(t *testing.T) { // P16.6
	for _, c := range cells() {
		b := bytesOf(at(1, 2), c)
		for _, behind := range []string{"\x00", "\x80", "\xff\xff", string(b)} {
			rejected(t, slices.Concat(b, []byte(behind)), api.ErrTail)
		}
	}
}

func TestReplayAsksWhere(t *testing.T) { // P16.6: ErrForm, if it is no instance
	right := 0
	for _, replica := range edges() {
		for _, slot := range edges() {
			i := at(replica, slot)
			for _, c := range []api.Cell{{}, first(api.Committed), same(ballot(1, 1))} {
				if b := bytesOf(i, c); isInst(i) {
					replayed(t, b, i, c, api.OK)
					right++
				} else {
					rejected(t, b, api.ErrForm)
					// It is asked last: what is wrong with the bytes is told ahead of it.
					rejected(t, append(b, 0), api.ErrTail)
					rejected(t, b[:len(b)-1], api.ErrShort)
				}
			}
		}
	}
	if right != 3*6*12 {
		t.Errorf("%d were right", right)
	}
}

func TestReplayByWrongs(t *testing.T) { // P16.6: the first error, whatever comes behind it
	eleven := slices.Repeat([]byte{0x80}, 11)
	join := slices.Concat[[]byte]
	rest := join(number(0), numbers(make([]int, 8)...)) // a command and attributes
	head := join(numbers(1, 2), numbers(3, 2, 1, 2, 0))
	replayed(t, join(head, rest, flag(false)), at(1, 2), api.Cell{Status: 3, Promised: ballot(2, 1), Voted: ballot(2, 0)}, api.OK)
	for k, c := range []struct {
		b    []byte
		want api.Errno
	}{
		{[]byte{0x80}, api.ErrShort},
		{[]byte{0x80, 0}, api.ErrForm},
		{eleven, api.ErrForm},
		{join(number(1), eleven), api.ErrForm},
		{join(numbers(1, 2), eleven), api.ErrForm},
		{join([]byte{0x80, 0x80, 0}, numbers(2, 0, 0, 0)), api.ErrForm},
		{numbers(7, 2), api.ErrShort},
		{numbers(7, 2, 0, 0, 7), api.ErrForm},
		{numbers(1, 0, 0, 0, 0), api.ErrForm},
		{numbers(1, 2, 0, 0, 7), api.ErrForm}, // the cell isn't right
		{append(numbers(1, 2, 0, 0, 7), 0), api.ErrForm},
		{append(numbers(1, 2, 0, 0, 6), 0), api.ErrTail},
		{append(numbers(1, 0, 0, 0, 6), 0), api.ErrTail},
		{numbers(1, 2, -1, 0, 0), api.ErrShort},
		{numbers(1, 2, 4, 0, 0), api.ErrShort},
		{join(numbers(1, 2, 4, 0, 0, 0, 0), rest, flag(false)), api.ErrForm},
		{join(numbers(1, 2, 1, 0, 0, 0, 1), rest, flag(false)), api.ErrForm}, // Voted is above Promised
		{join(numbers(1, 2, 1, 0, 0, 0, 1), rest, flag(false), flag(false)), api.ErrForm},
		{join(head, rest), api.ErrShort},
		{join(head, rest, []byte{2}), api.ErrForm},
		{join(head, rest, flag(true)), api.ErrForm},
		{join(head, number(6), number(1), number(1), text("a")), api.ErrForm},
		{join(head, number(1), number(1), number(1), text(strings.Repeat("k", 17))), api.ErrLong},
		{join(head, number(2), number(1), number(1), text("a"), text(strings.Repeat("v", 65))), api.ErrLong},
		{join(head, number(1), number(1), number(1), number(16)), api.ErrShort},
		{join(head, number(0), numbers(-1, 0, 0, 0, 0, 0, 0, 0)), api.ErrForm},
		{join(head, number(0), numbers(0, 0, 0, 0, 0, 0, 0, 1<<30+1), flag(false)), api.ErrForm},
	} {
		if _, _, why := wanted(c.b); why != c.want {
			t.Errorf("%d: %d by the words", k, why)
		}
		rejected(t, c.b, c.want)
	}
}

func TestReplayOfCellsThatAreNotRight(t *testing.T) { // P16.6
	refusals := 0
	for _, c := range wrongCells() {
		b := bytesOf(at(1, 2), c)
		i, x, why := wanted(b)
		replayed(t, b, i, x, why)
		if why != api.OK { // else what was wrong with it isn't written
			refusals++
		}
	}
	if refusals < 25 {
		t.Errorf("only %d were refused: this says little", refusals)
	}
}

func TestReplayOfSenselessBytes(t *testing.T) { // P16.6
	c := chance(161)
	told := map[api.Errno]int{}
	all := cells()
	for range 40000 {
		b := turned(&c, bytesOf(at(c.below(7), one(&c, 1, 2, 63, 64, 1<<30)), one(&c, all...)))
		i, x, why := wanted(b)
		told[why]++
		replayed(t, b, i, x, why)
		if why == api.OK && !bytes.Equal(Record(i, x), b) {
			t.Fatalf("Record of Replay of % x = % x", b, Record(i, x))
		}
	}
	for _, why := range []api.Errno{api.OK, api.ErrLong, api.ErrShort, api.ErrForm, api.ErrTail} {
		if told[why] < 100 {
			t.Errorf("%d is told %d times only", why, told[why])
		}
	}
}

// turned is b with one or two things done to it.
func turned(c *chance, b []byte) []byte {
	for range 1 + c.below(2) {
		if len(b) == 0 {
			break
		}
		at := c.below(len(b))
		switch c.below(6) {
		case 0:
			b[at] = one(c, 0, 1, 2, 12, 14, 64, 128, byte(c.below(256)))
		case 1:
			b = slices.Delete(b, at, at+1)
		case 2:
			b = slices.Insert(b, at, one(c, 0, 1, 2, 128, byte(c.below(256))))
		case 3:
			b[at] ^= 1 << c.below(8)
		case 4:
			b = b[:at]
		case 5:
			b = append(b, byte(c.below(256)))
		}
	}
	return b
}

func TestRecordAnswersNewMemory(t *testing.T) { // P16.6, R2
	for _, c := range []api.Cell{{}, first(api.Committed), {Status: 9}} {
		one, other := Record(at(1, 2), c), Record(at(1, 2), c)
		want := string(other)
		one = one[:cap(one)]
		for k := range one {
			one[k] = 9
		}
		if string(other) != want {
			t.Errorf("%+v: two answers share memory", c)
		}
	}
}

func TestReplayKeepsNothing(t *testing.T) { // P16.6, R2, R5
	for _, c := range cells() {
		b := bytesOf(at(3, 4), c)
		room := slices.Concat(b, bytes.Repeat([]byte{7}, 100))
		before := slices.Clone(room)
		i, x, why := Replay(room[:len(b)])
		if !bytes.Equal(room, before) {
			t.Fatalf("%+v: what was handed in is changed", c)
		}
		for k := range room {
			room[k] = 0xff
		}
		if i != at(3, 4) || x != c || why != api.OK {
			t.Errorf("an answer is %d, %+v, %d now; not %+v", i, x, why, c)
		}
	}
}
