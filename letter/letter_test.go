package letter

import (
	"bytes"
	"math"
	"slices"
	"strings"
	"testing"

	"concord/api"
)

// of is a right letter of a Kind, from 2 to 5, with something in each field that the Kind names.
func of(kind int) api.Letter {
	m := api.Letter{Kind: kind, From: 2, To: 5}
	for _, field := range names(kind) {
		fill(&m, field)
	}
	return m
}

// fill puts something that may stand there into a field.
func fill(m *api.Letter, field rune) {
	switch field {
	case 'I':
		m.Inst = at(6, 1<<30)
	case 'B':
		m.Ballot = ballot(1<<30, 6)
	case 'C':
		m.Cmd = getA()
	case 'A':
		m.Attr = attr(3, 1, 0, 5)
	case 'X':
		m.Cell = voted(api.Accepted)
	case 'D':
		m.Deps = row(1, 2, 3, 4, 5, 6, 1<<30)
	case 'S':
		m.Data = "data"
	}
}

// kinds are all that letters have.
func kinds() []int { return []int{1, 2, 3, 4, 5, 6, 7, 8, 9, 10, 11} }

// letters are right ones of each Kind, with much and with little in them.
func letters() []api.Letter {
	var l []api.Letter
	for _, kind := range kinds() {
		least := api.Letter{Kind: kind, From: 6}
		if strings.Contains(names(kind), "I") {
			least.Inst = at(0, 1)
		}
		l = append(l, of(kind), least)
	}
	for _, c := range cells() {
		m := of(api.LPrepared)
		m.Cell = c
		l = append(l, m)
	}
	for _, c := range commands() {
		for _, kind := range []int{api.LPre, api.LAccept, api.LCommit} {
			m := of(kind)
			m.Cmd = c
			l = append(l, m)
		}
	}
	for _, n := range []int{1, 63, 64, 1000} {
		l = append(l, image(n))
	}
	return l
}

// image is an LImage of so many bytes.
func image(n int) api.Letter {
	return api.Letter{Kind: api.LImage, From: 1, To: 0, Data: strings.Repeat("\xd5\x00", n/2+1)[:n]}
}

// right asks Right, and tells where it isn't as it must be.
func right(t *testing.T, m api.Letter, want bool) {
	t.Helper()
	if got := Right(m); got != want || isLetter(m) != want {
		t.Errorf("Right(%+v) = %t, not %t", m, got, want)
	}
}

func TestRight(t *testing.T) { // P15.2
	for _, m := range letters() {
		right(t, m, true)
	}
	for _, kind := range edges() {
		right(t, api.Letter{Kind: kind, To: 1, Inst: at(0, 1)}, kind >= 1 && kind <= 8)
		right(t, api.Letter{Kind: kind, To: 1}, kind >= 9 && kind <= 11)
	}
	right(t, api.Letter{}, false)
	right(t, api.Letter{To: 1, Inst: at(0, 1)}, false)
}

func TestRightByWhoAndToWhom(t *testing.T) { // P15.2
	for _, kind := range kinds() {
		for _, from := range edges() {
			for _, to := range edges() {
				m := of(kind)
				m.From, m.To = from, to
				right(t, m, from >= 0 && from <= 6 && to >= 0 && to <= 6 && from != to)
			}
		}
	}
}

func TestRightByWhatIsNotNamed(t *testing.T) { // P15.2: each field is zero that isn't named beside its Kind
	for _, kind := range kinds() {
		named := 0
		for _, field := range "IBCAXDS" {
			m := of(kind)
			fill(&m, field)
			is := strings.ContainsRune(names(kind), field)
			right(t, m, is)
			if is {
				named++
			}
		}
		if named != len(names(kind)) {
			t.Errorf("Kind %d names %d fields", kind, named)
		}
	}
	// The least that isn't zero of each field, where it isn't named.
	for _, m := range []api.Letter{
		{Kind: api.LFront, To: 1, Inst: at(0, 1)}, {Kind: api.LFront, To: 1, Inst: at(1, 0)},
		{Kind: api.LImage, To: 1, Ballot: ballot(0, 1)}, {Kind: api.LDone, To: 1, Ballot: ballot(1, 0)},
		{Kind: api.LCommit, To: 1, Inst: at(0, 1), Ballot: ballot(0, 1)},
		{Kind: api.LPreOK, To: 1, Inst: at(0, 1), Cmd: api.Command{Seq: 1}},
		{Kind: api.LNo, To: 1, Inst: at(0, 1), Attr: attr(0, 0, 0, 0, 0, 0, 0, 1)}, {Kind: api.LNo, To: 1, Inst: at(0, 1), Attr: attr(1)},
		{Kind: api.LPrepare, To: 1, Inst: at(0, 1), Cell: api.Cell{Same: true}},
		{Kind: api.LPrepare, To: 1, Inst: at(0, 1), Cell: api.Cell{Promised: ballot(0, 1)}},
		{Kind: api.LAcceptOK, To: 1, Inst: at(0, 1), Deps: row(0, 0, 0, 0, 0, 0, 1)},
		{Kind: api.LFront, To: 1, Data: "\x00"}, {Kind: api.LPre, To: 1, Inst: at(0, 1), Data: "\x00"},
		{Kind: api.LImage, To: 1, Deps: row(1)},
	} {
		right(t, m, false)
	}
}

func TestRightByInstancesAndBallots(t *testing.T) { // P15.2
	for _, kind := range []int{1, 2, 3, 4, 5, 6, 7, 8} {
		for _, a := range edges() {
			for _, b := range edges() {
				m := of(kind)
				m.Inst = at(a, b)
				right(t, m, a >= 0 && a <= 6 && b >= 1 && b <= 1<<30)
				if m = of(kind); kind != api.LCommit {
					m.Ballot = ballot(a, b)
					right(t, m, a >= 0 && a <= 1<<30 && b >= 0 && b <= 6)
				}
			}
		}
	}
}

func TestRightByWhatTheFieldsHold(t *testing.T) { // P15.2
	for _, c := range wrongCommands() {
		for _, kind := range []int{api.LPre, api.LAccept, api.LCommit} {
			m := of(kind)
			m.Cmd = c
			right(t, m, false)
		}
	}
	for _, a := range wrongAttrs() {
		for _, kind := range []int{api.LPre, api.LPreOK, api.LAccept, api.LCommit} {
			m := of(kind)
			m.Attr = a
			right(t, m, false)
		}
		for _, kind := range []int{api.LFront, api.LDone} {
			m := of(kind)
			m.Deps = a.Deps
			right(t, m, isRow(a.Deps))
		}
	}
	for _, c := range wrongCells() {
		m := of(api.LPrepared)
		m.Cell = c
		right(t, m, false)
	}
	for k := range api.MaxNodes {
		for _, slot := range edges() {
			for _, kind := range []int{api.LFront, api.LDone} {
				m := of(kind)
				m.Deps[k] = slot
				right(t, m, slot >= 0 && slot <= 1<<30)
			}
		}
	}
	for _, n := range []int{0, 1, 1<<14 - 1, 1 << 14} {
		right(t, image(n), true)
	}
	if Right(image(1<<14+1)) || Right(image(1<<20)) {
		t.Error("Data is longer than MaxRecord")
	}
}

func TestPutRuns(t *testing.T) { // P15.4: the runs
	for _, c := range []struct {
		m    api.Letter
		want string
	}{
		{api.Letter{Kind: api.LPrepare, To: 1, Inst: at(2, 3), Ballot: ballot(4, 0)}, "0C 00 02 04 06 08 00"},
		{api.Letter{Kind: api.LFront, To: 1, Deps: row(5)}, "12 00 02 0A 00 00 00 00 00 00"},
	} {
		if got := Put(c.m); !bytes.Equal(got, unhex(t, c.want)) {
			t.Errorf("Put(%+v) = % x", c.m, got)
		}
	}
}

func TestPut(t *testing.T) { // P15.4: each Kind by hand
	i, b, c, a := at(2, 3), ballot(4, 1), getA(), attr(3, 1, 0, 5)
	x := api.Cell{Status: api.Accepted, Promised: ballot(4, 2), Voted: ballot(3, 5), Cmd: c, Attr: a}
	for _, q := range []struct {
		m    api.Letter
		want string
	}{
		{api.Letter{Kind: api.LPre, From: 1, To: 6, Inst: i, Ballot: b, Cmd: c, Attr: a}, "02 02 0C 04 06 08 02 02 02 04 02 61 06 02 00 0A 00 00 00 00"},
		{api.Letter{Kind: api.LPreOK, From: 1, To: 6, Inst: i, Ballot: b, Attr: a}, "04 02 0C 04 06 08 02 06 02 00 0A 00 00 00 00"},
		{api.Letter{Kind: api.LAccept, From: 6, To: 1, Inst: i, Ballot: b, Cmd: c, Attr: a}, "06 0C 02 04 06 08 02 02 02 04 02 61 06 02 00 0A 00 00 00 00"},
		{api.Letter{Kind: api.LAcceptOK, From: 1, To: 0, Inst: i, Ballot: b}, "08 02 00 04 06 08 02"},
		{api.Letter{Kind: api.LCommit, From: 1, To: 6, Inst: i, Cmd: c, Attr: a}, "0A 02 0C 04 06 02 02 04 02 61 06 02 00 0A 00 00 00 00"},
		{api.Letter{Kind: api.LPrepare, From: 1, To: 6, Inst: at(0, 64), Ballot: ballot(64, 6)}, "0C 02 0C 00 80 01 80 01 0C"},
		{api.Letter{Kind: api.LPrepared, From: 1, To: 6, Inst: i, Ballot: b, Cell: x}, "0E 02 0C 04 06 08 02 04 08 04 06 0A 02 02 04 02 61 06 02 00 0A 00 00 00 00 00"},
		{api.Letter{Kind: api.LPrepared, From: 1, To: 6, Inst: i, Ballot: b, Cell: api.Cell{Promised: b}}, "0E 02 0C 04 06 08 02 00 08 02"},
		{api.Letter{Kind: api.LNo, From: 1, To: 6, Inst: i, Ballot: b}, "10 02 0C 04 06 08 02"},
		{api.Letter{Kind: api.LFront, From: 1, To: 6, Deps: row(0, 1, 0, 0, 0, 0, 64)}, "12 02 0C 00 02 00 00 00 00 80 01"},
		{api.Letter{Kind: api.LImage, From: 1, To: 6, Data: "abc"}, "14 02 0C 06 61 62 63"},
		{api.Letter{Kind: api.LImage, From: 1, To: 6}, "14 02 0C 00"},
		{api.Letter{Kind: api.LDone, From: 1, To: 6, Deps: row(0, 1, 0, 0, 0, 0, 64)}, "16 02 0C 00 02 00 00 00 00 80 01"},
	} {
		want := unhex(t, q.want)
		if got := Put(q.m); !bytes.Equal(got, want) || !bytes.Equal(bytesOf(q.m), want) {
			t.Errorf("Put(%+v) = % x", q.m, got)
		}
		if got, why := Get(want); got != q.m || why != api.OK {
			t.Errorf("Get(% x) = %+v, %d", want, got, why)
		}
	}
}

func TestPutOfOneThatIsNotRight(t *testing.T) { // P15.4
	l := []api.Letter{{}, {Kind: 12, To: 1}, {Kind: -1, To: 1}, {Kind: 9}, {Kind: 9, From: 7}, {Kind: 9, To: -1}, {Kind: 1, To: 1}, image(1<<14 + 1)}
	for _, kind := range kinds() {
		for _, field := range "IBCAXDS" {
			if !strings.ContainsRune(names(kind), field) {
				m := of(kind)
				fill(&m, field)
				l = append(l, m)
			}
		}
	}
	for _, c := range wrongCells() {
		m := of(api.LPrepared)
		m.Cell = c
		l = append(l, m)
	}
	for _, m := range l {
		if got := Put(m); len(got) != 0 {
			t.Errorf("Put(%+v) = % x", m, got)
		}
	}
}

func TestGetRuns(t *testing.T) { // P15.5: the runs
	toItself := numbers(1, 0, 0, 0, 1, 0, 0, 0, 0, 0, 0, 0, 0, 0, 0, 0)
	prepare := Put(api.Letter{Kind: api.LPrepare, To: 1, Inst: at(2, 3), Ballot: ballot(4, 0)})
	refused(t, toItself, api.ErrForm)
	refused(t, []byte{0x20}, api.ErrShort)
	refused(t, prepare[:len(prepare)-1], api.ErrShort)
}

// refused asks Get of what it must refuse: beside an error nothing is told.
func refused(t *testing.T, b []byte, why api.Errno) {
	t.Helper()
	if got, w := Get(b); got != (api.Letter{}) || w != why {
		t.Errorf("Get(% x) = %+v, %d; not %d", b[:min(len(b), 60)], got, w, why)
	}
	if _, w := wanted(b); w != why {
		t.Errorf("% x: by the words %d, not %d", b[:min(len(b), 60)], w, why)
	}
}

func TestGetOfPutIsTheLetter(t *testing.T) { // P15.5, P15.6
	c := chance(156)
	all := append(letters(), image(1<<14-1), image(1<<14))
	for range 3000 {
		all = append(all, c.letter())
	}
	for _, m := range all {
		b := Put(m)
		if !bytes.Equal(b, bytesOf(m)) {
			t.Fatalf("Put(%+v) = % x", m, b)
		}
		if got, why := Get(b); got != m || why != api.OK {
			t.Fatalf("Get(Put(%+v)) = %+v, %d", m, got, why)
		}
	}
}

func TestGetOfABeginning(t *testing.T) { // P15.5, P15.6: a beginning is none, nor is more than one
	for _, m := range append(letters(), image(1<<14)) {
		b := bytesOf(m)
		for n := range len(b) {
			if len(b) > 4000 && n%61 > 0 && n < len(b)-9 {
				continue
			}
			refused(t, b[:n], api.ErrShort)
		}
		for n := range 256 {
			refused(t, append(slices.Clone(b), byte(n)), api.ErrTail)
		}
		refused(t, slices.Concat(b, b), api.ErrTail)
	}
}

func TestGetByKinds(t *testing.T) { // P15.5: a Kind that is none is told behind From and To, whatever stands there
	rest := make([]byte, 40)
	for _, kind := range edges() {
		is := kind >= 1 && kind <= 11
		refused(t, number(kind), api.ErrShort)
		refused(t, numbers(kind, 0), api.ErrShort)
		refused(t, slices.Concat(numbers(kind, 0), []byte{0x80}), api.ErrShort)
		refused(t, slices.Concat(numbers(kind, 0), []byte{0x80, 0}), api.ErrForm)
		if is {
			refused(t, numbers(kind, 0, 1), api.ErrShort)
			refused(t, slices.Concat(numbers(kind, 0, 1), rest), api.ErrTail)
		} else {
			refused(t, numbers(kind, 0, 1), api.ErrForm)
			refused(t, slices.Concat(numbers(kind, 0, 1), rest), api.ErrForm)
			refused(t, numbers(kind, -5, math.MaxInt), api.ErrForm)
		}
	}
}

func TestGetByWrongs(t *testing.T) { // P15.5
	join := slices.Concat[[]byte]
	head := numbers(1, 0, 1)
	eleven := slices.Repeat([]byte{0x80}, 11)
	for _, c := range []struct {
		b    []byte
		want api.Errno
	}{
		{nil, api.ErrShort},
		{[]byte{}, api.ErrShort},
		{[]byte{0x82}, api.ErrShort},
		{[]byte{0x82, 0}, api.ErrForm},
		{eleven, api.ErrForm},
		{eleven[:9], api.ErrShort},
		{join(number(1), eleven), api.ErrForm},
		{join(head, eleven), api.ErrForm},
		{join(head, numbers(0, 1), eleven), api.ErrForm},
		// Who, to whom, the instance and the ballot are asked when all was read.
		{numbers(4, 0, 7, 0, 1, 0, 0), api.ErrForm},
		{numbers(4, -1, 0, 0, 1, 0, 0), api.ErrForm},
		{numbers(4, 3, 3, 0, 1, 0, 0), api.ErrForm},
		{numbers(4, 3, 3, 0, 1, 0), api.ErrShort},
		{numbers(4, 3, 3, 0, 1, 0, 0, 0), api.ErrTail},
		{numbers(4, 0, 1, 0, 0, 0, 0), api.ErrForm},
		{numbers(4, 0, 1, 0, 0, 0), api.ErrShort},
		{numbers(4, 0, 1, 0, 0, 0, 0, 0), api.ErrTail},
		{numbers(4, 0, 1, 7, 1, 0, 0), api.ErrForm},
		{numbers(4, 0, 1, 0, 1<<30+1, 0, 0), api.ErrForm},
		{numbers(4, 0, 1, 0, 1, 1<<30+1, 0), api.ErrForm},
		{numbers(4, 0, 1, 0, 1, 0, 7), api.ErrForm},
		{numbers(4, 0, 1, 0, 1, 0, -1), api.ErrForm},
		// A command, attributes and a cell fail by themselves, ahead of the end.
		{join(head, numbers(0, 1, 0, 0), numbers(6, 1, 1), text("a")), api.ErrForm},
		{join(head, numbers(0, 1, 0, 0), numbers(6, 1, 1)), api.ErrShort},
		{join(head, numbers(0, 1, 0, 0), numbers(2, 1, 1), text("a"), text(strings.Repeat("v", 65))), api.ErrLong},
		{join(head, numbers(0, 1, 0, 0), numbers(0), numbers(-1, 0, 0, 0, 0, 0, 0, 0), number(0)), api.ErrForm},
		{join(numbers(2, 0, 1, 0, 1, 0, 0), numbers(-1, 0, 0, 0, 0, 0, 0, 0)), api.ErrForm},
		{join(numbers(7, 0, 1, 0, 1, 0, 0), numbers(0, 0, 7), eleven), api.ErrForm},
		{join(numbers(7, 0, 1, 0, 1, 0, 0), numbers(0, 0, 0)), api.OK},
		{join(numbers(7, 0, 1, 0, 1, 0, 0), numbers(0, 0, 0, 0)), api.ErrTail},
		{join(numbers(7, 0, 1, 0, 1, 0, 0), numbers(3, 0, 0)), api.ErrShort},
		// Slots are asked when all was read.
		{numbers(9, 0, 1, -1, 0, 0, 0, 0, 0), api.ErrShort},
		{numbers(9, 0, 1, -1, 0, 0, 0, 0, 0, 0), api.ErrForm},
		{numbers(9, 0, 1, -1, 0, 0, 0, 0, 0, 0, 0), api.ErrTail},
		{numbers(11, 0, 1, 0, 0, 0, 0, 0, 0, 1<<30+1), api.ErrForm},
		{numbers(11, 0, 1, 0, 0, 0, 0, 0, 0, 1<<30), api.OK},
		// Data.
		{join(numbers(10, 0, 1), number(-1)), api.ErrLong},
		{join(numbers(10, 0, 1), number(1<<14+1)), api.ErrLong},
		{join(numbers(10, 0, 1), text(image(1<<14+1).Data)), api.ErrLong},
		{join(numbers(10, 0, 1), text(image(1<<14).Data)), api.OK},
		{join(numbers(10, 0, 1), number(1<<14)), api.ErrShort},
		{join(numbers(10, 0, 0), text("abc")), api.ErrForm},
		{join(numbers(10, 0, 1), text("abc"), number(0)), api.ErrTail},
		{join(numbers(10, 0, 1), number(math.MaxInt)), api.ErrLong},
		{join(numbers(10, 0, 1), number(math.MinInt)), api.ErrLong},
	} {
		if c.want != api.OK {
			refused(t, c.b, c.want)
			continue
		}
		want, _ := wanted(c.b)
		if got, why := Get(c.b); why != api.OK || got != want || !isLetter(got) {
			t.Errorf("Get(% x) = %+v, %d", c.b[:min(len(c.b), 60)], got, why)
		}
	}
}

func TestGetOfWhatIsntRight(t *testing.T) { // P15.5: in the form, but no right letter
	for _, kind := range kinds() {
		for _, n := range edges() {
			for _, f := range []func(m *api.Letter){
				func(m *api.Letter) { m.From = n },
				func(m *api.Letter) { m.To = n },
				func(m *api.Letter) { m.Inst.Replica = n },
				func(m *api.Letter) { m.Inst.Slot = n },
				func(m *api.Letter) { m.Ballot.Epoch = n },
				func(m *api.Letter) { m.Ballot.Replica = n },
				func(m *api.Letter) { m.Cmd.Client = n },
				func(m *api.Letter) { m.Cmd.Seq = n },
				func(m *api.Letter) { m.Attr.Seq = n },
				func(m *api.Letter) { m.Attr.Deps[3] = n },
				func(m *api.Letter) { m.Cell.Status = n },
				func(m *api.Letter) { m.Cell.Promised.Epoch = n },
				func(m *api.Letter) { m.Cell.Voted.Replica = n },
				func(m *api.Letter) { m.Deps[0] = n },
				func(m *api.Letter) { m.Deps[6] = n },
			} {
				m := of(kind)
				f(&m)
				b := bytesOf(m)
				want, why := wanted(b)
				if got, w := Get(b); got != want || w != why {
					t.Fatalf("Get of %+v = %+v, %d; not %d", m, got, w, why)
				}
				if isLetter(m) && want != m {
					t.Fatalf("by the words %+v, not %+v", want, m)
				}
			}
		}
	}
}

func TestGetOfSenselessBytes(t *testing.T) { // P15.5, P15.6: what Get takes is Put of it
	c := chance(155)
	told := map[api.Errno]int{}
	check := func(b []byte) {
		was := slices.Clone(b)
		want, why := wanted(b)
		got, w := Get(b)
		told[why]++
		if got != want || w != why {
			t.Fatalf("Get(% x) = %+v, %d; not %+v, %d", was, got, w, want, why)
		}
		if w == api.OK && (!Right(got) || !bytes.Equal(Put(got), was)) {
			t.Fatalf("Get(% x) = %+v, of which Put is % x", was, got, Put(got))
		}
		if !bytes.Equal(b, was) {
			t.Fatalf("Get changes % x to % x", was, b)
		}
	}
	for range 40000 {
		check(turned(&c, bytesOf(c.letter())))
	}
	for range 40000 {
		b := make([]byte, c.below(24))
		for k := range b {
			b[k] = one(&c, 0, 0, 0, 1, 2, 4, 6, 'a', 128, byte(c.below(24)), byte(c.below(256)))
		}
		check(b)
	}
	for _, why := range []api.Errno{api.OK, api.ErrLong, api.ErrShort, api.ErrForm, api.ErrTail} {
		if told[why] < 100 {
			t.Errorf("%d is told %d times only", why, told[why])
		}
	}
}

func TestMemory(t *testing.T) { // R2, R5
	for _, m := range letters() {
		b, other := Put(m), Put(m)
		whole := slices.Concat([]byte("ahead"), b, []byte("behind"))
		got, why := Get(b)
		within, w := Get(whole[5 : 5+len(b)])
		scribble(b)
		scribble(whole)
		if !bytes.Equal(other, bytesOf(m)) {
			t.Errorf("%+v: two answers of Put share memory", m)
		}
		if got != m || why != api.OK {
			t.Errorf("Get shares memory with what is given: %+v, %d", got, why)
		}
		if within != m || w != api.OK {
			t.Errorf("Get from within = %+v, %d", within, w)
		}
	}
}

func TestLong(t *testing.T) { // R1
	long := strings.Repeat("x", 1<<22)
	for _, m := range []api.Letter{
		{Kind: api.LImage, To: 1, Data: long},
		{Kind: api.LCommit, To: 1, Inst: at(0, 1), Cmd: api.Command{Kind: api.KPut, Client: 1, Seq: 1, Key: long, Value: long}},
		{Kind: api.LPrepared, To: 1, Inst: at(0, 1), Cell: api.Cell{Status: 1, Cmd: api.Command{Kind: api.KSwap, Client: 1, Seq: 1, Key: "a", Old: long}}},
	} {
		if Right(m) || len(Put(m)) != 0 {
			t.Errorf("of a long text, Kind %d: %t, %d bytes", m.Kind, Right(m), len(Put(m)))
		}
		refused(t, bytesOf(m), api.ErrLong)
	}
	refused(t, []byte(long), api.ErrForm)
	refused(t, bytes.Repeat([]byte{0x80}, 1<<22), api.ErrForm)
	refused(t, append(Put(of(api.LDone)), long...), api.ErrTail)
}
