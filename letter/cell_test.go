package letter

import (
	"bytes"
	"math"
	"slices"
	"strings"
	"testing"

	"concord/api"
	"concord/pack"
)

// proposed is a Preaccepted cell at the zero ballot.
func proposed() api.Cell {
	return api.Cell{Status: api.Preaccepted, Cmd: getA(), Attr: attr(3, 1, 0, 5)}
}

// voted is a cell with something in each field that may have something.
func voted(status int) api.Cell {
	return api.Cell{Status: status, Promised: ballot(4, 2), Voted: ballot(4, 1), Cmd: longest(), Attr: attr(1<<40, 1, 2, 3, 4, 5, 6, 1<<30)}
}

// cells are right ones of each Status.
func cells() []api.Cell {
	same := proposed()
	same.Same = true
	promised := same
	promised.Promised = ballot(1<<30, 6)
	return []api.Cell{
		{}, {Promised: ballot(0, 6)}, {Promised: ballot(1<<30, 0)},
		proposed(), same, promised, voted(api.Preaccepted),
		{Status: api.Preaccepted}, {Status: api.Accepted}, {Status: api.Committed}, {Status: api.Preaccepted, Same: true},
		voted(api.Accepted), voted(api.Committed),
		{Status: api.Accepted, Promised: ballot(1, 0), Voted: ballot(1, 0), Cmd: getA()},
		{Status: api.Committed, Promised: ballot(1, 0), Voted: ballot(0, 6), Attr: attr(0, 1<<30)},
		{Status: api.Committed, Promised: ballot(1<<30, 6), Voted: ballot(1<<30, 6)},
	}
}

// with answers c with something done to it.
func with(c api.Cell, f func(c *api.Cell)) api.Cell {
	f(&c)
	return c
}

// wrongCells aren't right, each by one thing that the chapter asks.
func wrongCells() []api.Cell {
	l := []api.Cell{
		{Status: -1}, {Status: 4}, {Status: math.MinInt}, {Status: math.MaxInt}, {Status: 1 << 32}, {Status: 1<<32 + 1},
		// Voted is not above Promised.
		{Status: api.Accepted, Voted: ballot(0, 1)},
		{Status: api.Accepted, Voted: ballot(1, 0)},
		{Status: api.Accepted, Promised: ballot(1, 3), Voted: ballot(1, 4)},
		{Status: api.Committed, Promised: ballot(1, 6), Voted: ballot(2, 0)},
		// Same is of a proposal at the zero ballot alone.
		{Same: true}, {Same: true, Promised: ballot(1, 0)},
		{Status: api.Accepted, Same: true}, {Status: api.Committed, Same: true},
		{Status: api.Preaccepted, Same: true, Promised: ballot(1, 1), Voted: ballot(1, 1)},
		{Status: api.Preaccepted, Same: true, Promised: ballot(1, 1), Voted: ballot(0, 1)},
		{Status: api.Preaccepted, Same: true, Promised: ballot(1, 1), Voted: ballot(1, 0)},
		// Of an Unknown nothing was taken.
		{Promised: ballot(1, 0), Voted: ballot(1, 0)}, {Promised: ballot(1, 0), Voted: ballot(0, 1)},
		{Cmd: getA()}, {Attr: attr(1)}, {Attr: attr(0, 1)}, {Attr: attr(0, 0, 0, 0, 0, 0, 0, 1)},
	}
	for status := api.Unknown; status <= api.Committed; status++ {
		for _, b := range []api.Ballot{ballot(-1, 0), ballot(1<<30+1, 0), ballot(1, -1), ballot(1, 7), ballot(math.MaxInt, 0), ballot(math.MinInt, 0)} {
			l = append(l, api.Cell{Status: status, Promised: b}, api.Cell{Status: status, Promised: ballot(1<<30, 6), Voted: b}, api.Cell{Status: status, Promised: b, Voted: b})
		}
		for _, c := range wrongCommands() {
			l = append(l, api.Cell{Status: status, Cmd: c})
		}
		for _, a := range wrongAttrs() {
			l = append(l, api.Cell{Status: status, Attr: a})
		}
	}
	return l
}

func TestTheNumbersAreApis(t *testing.T) { // the tables and the bytes stand on them
	if api.Unknown != 0 || api.Preaccepted != 1 || api.Accepted != 2 || api.Committed != 3 {
		t.Fatal("the Statuses have other numbers")
	}
	kinds := []int{api.LPre, api.LPreOK, api.LAccept, api.LAcceptOK, api.LCommit, api.LPrepare, api.LPrepared, api.LNo, api.LFront, api.LImage, api.LDone}
	if !slices.Equal(kinds, []int{1, 2, 3, 4, 5, 6, 7, 8, 9, 10, 11}) {
		t.Fatal("the Kinds have other numbers")
	}
	if api.MaxNodes != 7 || api.MaxSlot != 1<<30 || api.MaxEpoch != 1<<30 || api.MaxRecord != 1<<14 {
		t.Fatal("the limits have other numbers")
	}
}

func TestRightCell(t *testing.T) { // P15.1
	for _, c := range cells() {
		if !RightCell(c) || !isCell(c) {
			t.Errorf("RightCell(%+v) = %t", c, RightCell(c))
		}
	}
	for _, c := range wrongCells() {
		if RightCell(c) || isCell(c) {
			t.Errorf("RightCell(%+v) = %t", c, RightCell(c))
		}
	}
}

func TestRightCellGoesByEachNumber(t *testing.T) { // P15.1
	right := 0
	for _, from := range cells() {
		for _, n := range edges() {
			for _, c := range []api.Cell{
				with(from, func(c *api.Cell) { c.Status = n }),
				with(from, func(c *api.Cell) { c.Promised.Epoch = n }),
				with(from, func(c *api.Cell) { c.Promised.Replica = n }),
				with(from, func(c *api.Cell) { c.Voted.Epoch = n }),
				with(from, func(c *api.Cell) { c.Voted.Replica = n }),
				with(from, func(c *api.Cell) { c.Cmd.Kind = n }),
				with(from, func(c *api.Cell) { c.Cmd.Client = n }),
				with(from, func(c *api.Cell) { c.Cmd.Seq = n }),
				with(from, func(c *api.Cell) { c.Attr.Seq = n }),
				with(from, func(c *api.Cell) { c.Attr.Deps[0] = n }),
				with(from, func(c *api.Cell) { c.Attr.Deps[6] = n }),
				with(from, func(c *api.Cell) { c.Same = !c.Same }),
			} {
				got := RightCell(c)
				if got != isCell(c) {
					t.Fatalf("RightCell(%+v) = %t", c, got)
				}
				if got {
					right++
				}
			}
		}
	}
	if right < 500 {
		t.Errorf("only %d were right: this says little", right)
	}
}

func TestRightCellByBallots(t *testing.T) { // P15.1: each Status, and each pair of ballots about one another and the limits
	for status := -1; status <= 4; status++ {
		for _, pe := range []int{-1, 0, 1, 2, 1 << 30, 1<<30 + 1} {
			for _, ve := range []int{-1, 0, 1, 2, 1 << 30, 1<<30 + 1} {
				for pr := -1; pr <= 7; pr++ {
					for vr := -1; vr <= 7; vr++ {
						for _, same := range []bool{false, true} {
							c := api.Cell{Status: status, Promised: ballot(pe, pr), Voted: ballot(ve, vr), Same: same}
							if got := RightCell(c); got != isCell(c) {
								t.Fatalf("RightCell(%+v) = %t", c, got)
							}
						}
					}
				}
			}
		}
	}
}

func TestPutCell(t *testing.T) { // P15.3
	same := proposed()
	same.Same = true
	same.Promised = ballot(64, 6)
	for _, c := range []struct {
		c    api.Cell
		want string
	}{
		{api.Cell{}, "00 00 00"},
		{api.Cell{Promised: ballot(1<<30, 6)}, "00 80 80 80 80 08 0C"},
		{api.Cell{Status: api.Preaccepted}, "02 00 00 00 00 00 00 00 00 00 00 00 00 00 00"},
		{proposed(), "02 00 00 00 00 02 02 04 02 61 06 02 00 0A 00 00 00 00 00"},
		{same, "02 80 01 0C 00 00 02 02 04 02 61 06 02 00 0A 00 00 00 00 01"},
		{api.Cell{Status: api.Accepted, Promised: ballot(4, 2), Voted: ballot(3, 5), Cmd: getA()}, "04 08 04 06 0A 02 02 04 02 61 00 00 00 00 00 00 00 00 00"},
		{api.Cell{Status: api.Committed, Promised: ballot(4, 2), Voted: ballot(4, 2), Attr: attr(64, 0, 0, 0, 0, 0, 0, 64)}, "06 08 04 08 04 00 80 01 00 00 00 00 00 00 80 01 00"},
	} {
		want := unhex(t, c.want)
		for _, ahead := range []string{"", "\x00", "\x80\xff", strings.Repeat("z", 1<<16)} {
			if got := PutCell([]byte(ahead), c.c); string(got) != ahead+string(want) {
				t.Errorf("PutCell(%.10q, %+v) = % x", ahead, c.c, got[min(len(ahead), len(got)):])
			}
		}
		if got := PutCell(nil, c.c); !bytes.Equal(got, want) {
			t.Errorf("PutCell(nil, %+v) = % x", c.c, got)
		}
	}
	for _, c := range cells() {
		if got := PutCell([]byte("ahead"), c); string(got) != "ahead"+string(bytesOfCell(c)) {
			t.Errorf("PutCell(ahead, %+v) = % x", c, got)
		}
	}
}

func TestPutCellOfOneThatIsNotRight(t *testing.T) { // P15.3
	for _, c := range wrongCells() {
		for _, ahead := range []string{"", "\x00", "ahead"} {
			if got := PutCell([]byte(ahead), c); string(got) != ahead {
				t.Errorf("PutCell(%q, %+v) = % x", ahead, c, got)
			}
		}
		if got := PutCell(nil, c); len(got) != 0 {
			t.Errorf("PutCell(nil, %+v) = % x", c, got)
		}
	}
}

// filled is the bytes with a room of a thousand behind them, each of which is 7.
func filled(b string) []byte {
	room := append([]byte(b), bytes.Repeat([]byte{7}, 1000)...)
	return room[:len(b)]
}

// scribble writes over b and its spare room.
func scribble(b []byte) {
	b = b[:cap(b)]
	for k := range b {
		b[k] = 9
	}
}

func TestPutCellAnswersNewMemory(t *testing.T) { // P15.3, R2, R5
	for _, c := range []api.Cell{{}, proposed(), voted(api.Committed), {Status: 9}, {Cmd: getA()}} {
		for _, ahead := range []string{"", "ab"} {
			b := filled(ahead)
			one, two := PutCell(b, c), PutCell(b, voted(api.Accepted))
			want := string(two)
			scribble(one)
			if string(b) != ahead || !bytes.Equal(b[len(b):len(b)+1000], bytes.Repeat([]byte{7}, 1000)) {
				t.Errorf("%+v: what was handed in is changed", c)
			}
			if string(two) != want {
				t.Errorf("%+v: two answers share memory", c)
			}
			if len(b) > 0 {
				b[0] = 'x'
			}
			if string(two) != want {
				t.Errorf("%+v: the answer is what was handed in", c)
			}
		}
	}
}

// gotten asks GetCell of what stands behind a byte that was read already, and tells what isn't as it must be.
func gotten(t *testing.T, b []byte, want api.Cell, at int, why api.Errno) {
	t.Helper()
	r := pack.Read(slices.Concat([]byte{1}, b))
	r.Flag()
	if got := GetCell(r); got != want || r.Wrong() != why || r.At()-1 != at {
		t.Fatalf("GetCell of % x = %+v, %d at %d; not %+v, %d at %d", b, got, r.Wrong(), r.At()-1, want, why, at)
	}
}

func TestGetCellOfPutCellIsTheCell(t *testing.T) { // P15.3
	c := chance(15)
	all := cells()
	for range 3000 {
		all = append(all, c.cell())
	}
	for _, x := range all {
		b := PutCell(nil, x)
		if !bytes.Equal(b, bytesOfCell(x)) {
			t.Fatalf("PutCell(%+v) = % x", x, b)
		}
		for _, behind := range []string{"", "\x00", "\x80", "\xff\xff", string(b)} {
			gotten(t, slices.Concat(b, []byte(behind)), x, len(b), api.OK)
		}
	}
}

func TestGetCellOfSeveral(t *testing.T) { // P15.3: a reader goes on behind each
	var b []byte
	for _, c := range cells() {
		b = PutCell(b, c)
	}
	r := pack.Read(b)
	for _, c := range cells() {
		if got := GetCell(r); got != c {
			t.Fatalf("GetCell = %+v, not %+v", got, c)
		}
	}
	if r.End() != api.OK {
		t.Errorf("End = %d", r.End())
	}
}

// written is what of a cell has a place among its bytes.
func written(c api.Cell) api.Cell {
	if c.Status == 0 {
		return api.Cell{Promised: c.Promised}
	}
	w := api.Command{Kind: c.Cmd.Kind}
	if w.Kind != 0 {
		w.Client, w.Seq, w.Key = c.Cmd.Client, c.Cmd.Seq, c.Cmd.Key
	}
	switch w.Kind {
	case 2:
		w.Value = c.Cmd.Value
	case 4:
		w.Old, w.Value = c.Cmd.Old, c.Cmd.Value
	case 5:
		w.End = c.Cmd.End
	}
	c.Cmd = w
	return c
}

func TestGetCellOfOneThatIsNotRight(t *testing.T) { // P15.3: in the form, but no right cell
	refused := 0
	for _, c := range wrongCells() {
		b, w := bytesOfCell(c), written(c)
		a := asker{b: b}
		want := a.cell()
		gotten(t, b, want, a.at, a.why)
		switch long := len(w.Cmd.Key) > 16 || len(w.Cmd.Value) > 64; {
		case isCell(w):
			// What was wrong with it isn't written.
			if a.why != api.OK || want != w {
				t.Errorf("of %+v: %+v, %d", c, want, a.why)
			}
			continue
		case long && a.why != api.ErrLong, !long && a.why != api.ErrForm:
			t.Errorf("of %+v: %+v, %d", c, want, a.why)
		}
		refused++
	}
	if refused < 100 {
		t.Errorf("only %d were refused: this says little", refused)
	}
}

func TestGetCellByWrongs(t *testing.T) { // P15.3: the first error stays, whatever comes behind it
	eleven := slices.Repeat([]byte{0x80}, 11)
	join := slices.Concat[[]byte]
	head, rest := numbers(3, 2, 1, 2, 0), join(number(0), numbers(make([]int, 8)...))
	if got := GetCell(pack.Read(join(head, rest, flag(false)))); got != (api.Cell{Status: 3, Promised: ballot(2, 1), Voted: ballot(2, 0)}) {
		t.Fatalf("of what is right: %+v", got)
	}
	for i, c := range []struct {
		b    []byte
		want api.Errno
	}{
		{nil, api.ErrShort},
		{[]byte{0x80}, api.ErrShort},
		{[]byte{0x80, 0}, api.ErrForm},
		{eleven, api.ErrForm},
		{numbers(0), api.ErrShort},
		{numbers(0, 0), api.ErrShort},
		{numbers(0, 0, 7), api.ErrForm},
		{numbers(0, -1, 0), api.ErrForm},
		{numbers(-1, 0, 0), api.ErrShort}, // of what isn't Unknown more is asked for
		{numbers(4, 0, 0), api.ErrShort},
		{numbers(4, 0, 0, 0), api.ErrShort},
		{join(numbers(4, 0, 0, 0, 0), rest, flag(false)), api.ErrForm},
		{join(numbers(-1, 0, 0, 0, 0), rest, flag(false)), api.ErrForm},
		{join(numbers(1, 0, 0, 0, 1), rest), api.ErrShort}, // Voted is above Promised, but that is asked last
		{join(numbers(1, 0, 0, 0, 1), rest, flag(false)), api.ErrForm},
		{join(head, rest, []byte{2}), api.ErrForm},
		{join(head, rest, flag(true)), api.ErrForm}, // a Committed one is the Same as nothing
		{join(head, rest), api.ErrShort},
		{join(head, number(6), number(1), number(1), text("a")), api.ErrForm}, // the command fails ahead of the end
		{join(head, number(1), number(1), number(1), text(strings.Repeat("k", 17))), api.ErrLong},
		{join(head, number(1), number(1), number(1), number(16)), api.ErrShort},
		{join(head, number(2), number(1), number(1), text("a"), text(strings.Repeat("v", 65))), api.ErrLong},
		{join(head, number(0), numbers(-1, 0, 0, 0, 0, 0, 0, 0)), api.ErrForm}, // the attributes fail ahead of the end
		{join(head, number(0), numbers(-1, 0, 0, 0, 0, 0, 0)), api.ErrShort},
		{join(head, number(0), numbers(0, 0, 0, 0, 0, 0, 0, 1<<30+1), flag(false)), api.ErrForm},
		{join(head, number(0), numbers(0, 0, 0, 0, 0, 0, 0), eleven), api.ErrForm},
		{join(numbers(3, 2), eleven[:10], eleven), api.ErrForm},
	} {
		a := asker{b: c.b}
		if a.cell() != (api.Cell{}) || a.why != c.want {
			t.Errorf("%d: %d", i, a.why)
		}
		gotten(t, c.b, api.Cell{}, a.at, c.want)
	}
}

func TestGetCellOfABeginning(t *testing.T) { // P15.3
	for _, c := range cells() {
		b := bytesOfCell(c)
		for n := range len(b) {
			r := pack.Read(b[:n])
			if got := GetCell(r); got != (api.Cell{}) || r.Wrong() != api.ErrShort {
				t.Errorf("GetCell of the first %d of %d = %+v, %d", n, len(b), got, r.Wrong())
			}
		}
	}
}

func TestGetCellOfAReaderThatIsWrong(t *testing.T) { // P15.3: its first error stays, and so does its place
	for _, c := range cells() {
		b := bytesOfCell(c)
		r := pack.Read(slices.Concat([]byte{2}, b, b))
		r.Flag()
		if got := GetCell(r); got != (api.Cell{}) || r.Wrong() != api.ErrForm || r.At() != 0 {
			t.Errorf("behind a wrong flag: %+v, %d at %d", got, r.Wrong(), r.At())
		}
		r = pack.Read(slices.Concat(b, b))
		r.Text(-1)
		if got := GetCell(r); got != (api.Cell{}) || r.Wrong() != api.ErrLong || r.At() != 0 {
			t.Errorf("behind a wrong text: %+v, %d at %d", got, r.Wrong(), r.At())
		}
	}
	if got := GetCell(nil); got != (api.Cell{}) {
		t.Errorf("GetCell(nil) = %+v", got)
	}
	if r := new(pack.Reader); GetCell(r) != (api.Cell{}) || r.Wrong() != api.ErrShort {
		t.Errorf("GetCell of a reader of nothing: %d", r.Wrong())
	}
}

func TestGetCellOfSenselessBytes(t *testing.T) { // P15.3
	c := chance(151)
	told := map[api.Errno]int{}
	for range 40000 {
		b := turned(&c, bytesOfCell(c.cell()))
		a := asker{b: b}
		want := a.cell()
		told[a.why]++
		gotten(t, b, want, a.at, a.why)
		if a.why == api.OK && !bytes.Equal(PutCell(nil, want), b[:a.at]) {
			t.Fatalf("PutCell of GetCell of % x = % x", b, PutCell(nil, want))
		}
	}
	for _, why := range []api.Errno{api.OK, api.ErrLong, api.ErrShort, api.ErrForm} {
		if told[why] < 100 {
			t.Errorf("%d is told %d times only", why, told[why])
		}
	}
}

// turned is b with one or two things done to it.
func turned(c *chance, b []byte) []byte {
	b = slices.Clone(b)
	for range 1 + c.below(2) {
		if len(b) == 0 {
			break
		}
		at := c.below(len(b))
		switch c.below(5) {
		case 0:
			b[at] = one(c, 0, 1, 2, 12, 14, 64, 128, byte(c.below(256)))
		case 1:
			b = slices.Delete(b, at, at+1)
		case 2:
			b = slices.Insert(b, at, one(c, 0, 1, 2, 128, byte(c.below(256))))
		case 3:
			b[at] ^= 1 << c.below(8)
		case 4:
			b = b[:at]
		}
	}
	return b
}
