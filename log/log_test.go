package log

import (
	"slices"
	"testing"

	"concord/api"
	"concord/deps"
	"concord/inst"
	"concord/letter"
)

func TestTheNumbersAreTheChapters(t *testing.T) { // the tables are written with these
	if api.MaxNodes != 7 || api.MaxSlot != 1<<30 || api.MaxEpoch != 1<<30 || api.MaxAttr != 1<<40 {
		t.Fatal("the limits have other numbers")
	}
	if api.Unknown != 0 || api.Preaccepted != 1 || api.Accepted != 2 || api.Committed != 3 {
		t.Fatal("the Statuses have other numbers")
	}
}

func TestTheCellsAreWhatTheyAreTakenFor(t *testing.T) { // the other tests stand on it
	for _, c := range cells() {
		if !isCell(c) || !letter.RightCell(c) {
			t.Errorf("%+v isn't right", c)
		}
	}
	for _, c := range wrongCells() {
		if isCell(c) || letter.RightCell(c) {
			t.Errorf("%+v is right", c)
		}
	}
}

func TestTheRun(t *testing.T) { // the chapter's run
	l := New(row())
	if got := l.Set(at(1, 2), first(api.Preaccepted)); !got {
		t.Error("the first Set is refused")
	}
	if got := l.Set(at(1, 2), first(api.Committed)); !got {
		t.Error("the second Set is refused")
	}
	if got := l.Set(at(1, 2), first(api.Accepted)); got {
		t.Error("the third Set isn't refused")
	}
	if got := l.Top(); got != row(0, 2) {
		t.Errorf("Top() = %d", got)
	}
	l.Trim(row(0, 5))
	if got := l.List(); len(got) != 0 || !l.Gone(at(1, 5)) {
		t.Errorf("behind Trim: %d, %t", got, l.Gone(at(1, 5)))
	}
}

func TestNew(t *testing.T) { // P16.1
	for _, c := range []struct{ cut, want api.Deps }{
		{row(), row()},
		{row(1, 2, 3, 4, 5, 6, 7), row(1, 2, 3, 4, 5, 6, 7)},
		{alike(1 << 30), alike(1 << 30)},
		{alike(1<<30 + 1), alike(1 << 30)},
		{alike(-1), row()},
		{row(-1, 0, 1, 1<<30-1, 1<<30, 1<<30+1, 1<<63-1), row(0, 0, 1, 1<<30-1, 1<<30, 1<<30, 1<<30)},
		{row(1<<32, 1<<32+1, -1<<63, -1<<32, 1<<31), row(1<<30, 1<<30, 0, 0, 1<<30)},
	} {
		empty(t, New(c.cut), c.want)
	}
	for r := range api.MaxNodes {
		for _, slot := range edges() {
			empty(t, New(alone(r, slot)), alone(r, max(0, min(slot, 1<<30))))
		}
	}
}

func TestLogsAreApart(t *testing.T) { // P16.1
	a, b := New(row(1)), New(row(1))
	a.Set(at(0, 2), first(api.Accepted))
	a.Trim(row(0, 7))
	empty(t, b, row(1))
	empty(t, New(row(1)), row(1))
	b.Set(at(0, 3), first(api.Committed))
	like(t, a, &model{l: []entry{{at(0, 2), first(api.Accepted)}}, cut: row(1, 7)})
}

func TestGone(t *testing.T) { // P16.1, P16.2
	l := New(row(0, 1, 5, 1<<30-1, 1<<30, -3, 1<<40))
	for _, c := range []struct {
		i    api.Inst
		want bool
	}{
		{at(0, 1), false}, {at(1, 1), true}, {at(1, 2), false},
		{at(2, 1), true}, {at(2, 4), true}, {at(2, 5), true}, {at(2, 6), false}, {at(2, 1<<30), false},
		{at(3, 1), true}, {at(3, 1<<30-1), true}, {at(3, 1<<30), false},
		{at(4, 1), true}, {at(4, 1<<30), true}, {at(5, 1), false}, {at(6, 1<<30), true},
		// What is no instance isn't gone, however low it stands.
		{at(4, 1<<30+1), false}, {at(6, 1<<40), false}, {at(2, 0), false}, {at(2, -1), false}, {at(0, 0), false},
		{at(-1, 1), false}, {at(7, 1), false}, {at(7, 0), false}, {at(1<<32+2, 1), false}, {at(2, 1<<32+1), false},
		{at(-1<<63, -1<<63), false}, {at(1<<63-1, 1<<63-1), false}, {api.Inst{}, false},
	} {
		if got := l.Gone(c.i); got != c.want {
			t.Errorf("Gone(%d) = %t", c.i, got)
		}
	}
	gone := 0
	for _, cut := range []api.Deps{row(), alike(1), alike(8), alike(1 << 30), row(0, 1, 2, 3, 5, 7, 64)} {
		l, m := New(cut), modelOf(cut)
		for _, replica := range edges() {
			for _, slot := range edges() {
				i := at(replica, slot)
				if got := l.Gone(i); got != m.gone(i) {
					t.Errorf("cut %d: Gone(%d) = %t", cut, i, got)
				} else if got {
					gone++
				}
			}
		}
	}
	if gone < 100 {
		t.Errorf("%d are gone: this says little", gone)
	}
}

func TestGoneIsNotHavingNoCell(t *testing.T) { // P16.1, P16.2
	l := New(row(0, 3))
	if l.Gone(at(1, 4)) || l.Gone(at(2, 1)) {
		t.Error("what never had a cell is gone")
	}
	l.Set(at(1, 4), first(api.Committed))
	if l.Gone(at(1, 4)) || !l.Gone(at(1, 3)) {
		t.Error("what has a cell is gone, or what is cut off isn't")
	}
}

func TestCell(t *testing.T) { // P16.2
	l := New(row(0, 3))
	for _, i := range []api.Inst{{}, at(0, 1), at(1, 3), at(1, 4), at(6, 1<<30), at(7, 1), at(-1, 1), at(0, 0), at(0, -1), at(1<<63-1, -1<<63)} {
		if c, is := l.Cell(i); is || c != (api.Cell{}) {
			t.Errorf("Cell(%d) = %+v, %t", i, c, is)
		}
	}
	for k, c := range cells() {
		i := at(k%7, k+4)
		if !l.Set(i, c) {
			t.Fatalf("Set(%d, %+v) is refused", i, c)
		}
	}
	for r := range api.MaxNodes {
		for slot := range len(cells()) + 9 {
			var want api.Cell
			k := slot - 4
			has := k >= 0 && k < len(cells()) && k%7 == r
			if has {
				want = cells()[k]
			}
			if c, is := l.Cell(at(r, slot)); is != has || c != want {
				t.Errorf("Cell(%d %d) = %+v, %t; not %+v", r, slot, c, is, want)
			}
		}
	}
}

func TestTheZeroCellIsACell(t *testing.T) { // P16.2, P16.3, P16.5
	l := New(row())
	if !l.Set(at(4, 9), api.Cell{}) {
		t.Fatal("it is refused")
	}
	if c, is := l.Cell(at(4, 9)); !is || c != (api.Cell{}) {
		t.Errorf("Cell = %+v, %t", c, is)
	}
	if l.Top() != alone(4, 9) || !slices.Equal(l.List(), []api.Inst{at(4, 9)}) {
		t.Errorf("Top() = %d, List() = %d", l.Top(), l.List())
	}
}

func TestSetAsksWhere(t *testing.T) { // P16.3: which instances may have a cell
	taken := 0
	for _, replica := range edges() {
		for _, slot := range edges() {
			i := at(replica, slot)
			l, m := New(row()), modelOf(row())
			want := m.set(i, first(api.Preaccepted))
			if got := l.Set(i, first(api.Preaccepted)); got != want {
				t.Errorf("Set(%d) = %t", i, got)
			}
			if want {
				taken++
			}
			like(t, l, m)
		}
	}
	if taken != 6*12 { // 0, 1, 2, 3, 5, 6; and 1 to 1 << 30 without what lies between
		t.Errorf("%d were taken", taken)
	}
}

func TestSetAboveTheCut(t *testing.T) { // P16.3: what is gone has no cell any more
	for r := range api.MaxNodes {
		for _, c := range []struct {
			cut, slot int
			want      bool
		}{
			{0, 1, true}, {-5, 1, true}, {1, 1, false}, {1, 2, true}, {5, 1, false}, {5, 4, false}, {5, 5, false}, {5, 6, true}, {5, 1 << 30, true},
			{1<<30 - 1, 1<<30 - 1, false}, {1<<30 - 1, 1 << 30, true}, {1 << 30, 1 << 30, false}, {1 << 30, 1, false}, {1 << 40, 1 << 30, false},
		} {
			for _, x := range cells()[:12] {
				l, m := New(alone(r, c.cut)), modelOf(alone(r, c.cut))
				if got := l.Set(at(r, c.slot), x); got != c.want {
					t.Errorf("above %d: Set(%d %d) = %t", c.cut, r, c.slot, got)
				}
				m.set(at(r, c.slot), x)
				// Another replica's cut is nothing to it.
				other := at((r+3)%7, 1)
				if !l.Set(other, x) {
					t.Errorf("above %d of %d: Set(%d) is refused", c.cut, r, other)
				}
				m.set(other, x)
				like(t, l, m)
			}
		}
	}
}

func TestSetAsksForARightCell(t *testing.T) { // P16.3
	for _, c := range wrongCells() {
		l := New(row())
		if l.Set(at(1, 2), c) {
			t.Errorf("Set of %+v isn't refused", c)
		}
		empty(t, l, row())
		l.Set(at(1, 2), api.Cell{})
		if l.Set(at(1, 2), c) {
			t.Errorf("Set of %+v over the zero cell isn't refused", c)
		}
		like(t, l, &model{l: []entry{{at(1, 2), api.Cell{}}}})
	}
	for _, c := range cells() {
		l := New(row())
		if !l.Set(at(1, 2), c) {
			t.Errorf("Set of %+v is refused", c)
		}
		like(t, l, &model{l: []entry{{at(1, 2), c}}})
	}
}

// over asks whether c may stand where its stands, and tells where it isn't as it must be, or what stands there then isn't.
func over(t *testing.T, its, c api.Cell, want bool) {
	t.Helper()
	l := New(row())
	if !l.Set(at(1, 2), its) {
		t.Fatalf("Set(%+v) is refused where nothing stands", its)
	}
	if got := l.Set(at(1, 2), c); got != want {
		t.Errorf("Set(%+v) over %+v = %t", c, its, got)
	}
	stays := its
	if want {
		stays = c
	}
	like(t, l, &model{l: []entry{{at(1, 2), stays}}})
}

func TestSetOverACommitted(t *testing.T) { // P16.3
	its := stands(api.Committed, ballot(2, 3), ballot(1, 4))
	over(t, its, its, true)
	// Its ballots may rise, as long as it is the same command and attributes.
	over(t, its, stands(api.Committed, ballot(2, 4), ballot(1, 4)), true)
	over(t, its, stands(api.Committed, ballot(2, 3), ballot(2, 3)), true)
	over(t, its, stands(api.Committed, ballot(1<<30, 6), ballot(1<<30, 6)), true)
	over(t, its, stands(api.Committed, ballot(2, 2), ballot(1, 4)), false)
	over(t, its, stands(api.Committed, ballot(2, 3), ballot(1, 3)), false)
	for _, b := range []api.Ballot{ballot(1, 4), ballot(1, 5), ballot(3, 0), ballot(1<<30, 6)} {
		p := b
		if below(p, ballot(2, 3)) {
			p = ballot(2, 3)
		}
		over(t, its, stands(api.Accepted, p, b), false)
		over(t, its, stands(api.Preaccepted, p, b), false)
		over(t, its, promised(p), false)
		for _, f := range []func(c *api.Cell){
			func(c *api.Cell) { c.Cmd.Kind = api.KDelete },
			func(c *api.Cell) { c.Cmd.Client = 2 },
			func(c *api.Cell) { c.Cmd.Seq = 3 },
			func(c *api.Cell) { c.Cmd.Key = "b" },
			func(c *api.Cell) { c.Cmd = api.Command{} },
			func(c *api.Cell) { c.Attr.Seq++ },
			func(c *api.Cell) { c.Attr.Seq-- },
			func(c *api.Cell) { c.Attr.Deps[0]++ },
			func(c *api.Cell) { c.Attr.Deps[6]++ },
			func(c *api.Cell) { c.Attr = api.Attr{} },
		} {
			over(t, its, with(stands(api.Committed, p, b), f), false)
		}
	}
	over(t, its, api.Cell{}, false)
	// What does nothing is a command as any other.
	none := api.Cell{Status: api.Committed, Attr: attr(0, 4)}
	over(t, none, none, true)
	over(t, none, with(none, func(c *api.Cell) { c.Cmd = getA() }), false)
	over(t, none, with(none, func(c *api.Cell) { c.Attr.Deps[0] = 3 }), false)
}

func TestSetOverOneThatIsNotCommitted(t *testing.T) { // P16.3
	for status := api.Preaccepted; status <= api.Accepted; status++ {
		its := stands(status, ballot(2, 3), ballot(1, 4))
		// Another command and other attributes are taken, at the same ballot too.
		other := with(its, func(c *api.Cell) { c.Cmd, c.Attr = longest(), attr(9) })
		over(t, its, other, true)
		over(t, other, its, true)
		over(t, its, with(other, func(c *api.Cell) { c.Status = api.Committed }), true)
		// Neither ballot sinks, by its Epoch or its Replica; they rise one without the other.
		over(t, its, stands(status, ballot(2, 4), ballot(1, 4)), true)
		over(t, its, stands(status, ballot(3, 0), ballot(1, 4)), true)
		over(t, its, stands(status, ballot(2, 3), ballot(1, 5)), true)
		over(t, its, stands(status, ballot(2, 3), ballot(2, 0)), true)
		over(t, its, stands(status, ballot(2, 2), ballot(1, 4)), false)
		over(t, its, stands(status, ballot(1, 6), ballot(1, 4)), false)
		over(t, its, stands(status, ballot(2, 3), ballot(1, 3)), false)
		over(t, its, stands(status, ballot(2, 3), ballot(0, 6)), false)
		over(t, its, stands(status, ballot(3, 0), ballot(1, 3)), false)
		over(t, its, stands(status, ballot(2, 2), ballot(2, 2)), false)
		over(t, its, stands(api.Committed, ballot(2, 2), ballot(1, 4)), false)
		over(t, its, stands(api.Committed, ballot(2, 3), ballot(0, 0)), false)
		// Its promise is not what c's vote is held against, nor its vote what c's promise is.
		over(t, its, stands(status, ballot(2, 3), ballot(2, 3)), true)
		over(t, its, stands(status, ballot(1, 4), ballot(1, 4)), false)
		// What was taken is not unknown again, whatever is promised.
		over(t, its, promised(ballot(2, 3)), false)
		over(t, its, promised(ballot(1<<30, 6)), false)
		over(t, its, api.Cell{}, false)
	}
}

func TestSetByStatusAndVoted(t *testing.T) { // P16.3: at one ballot a Status doesn't sink, at a later one it may
	for its := api.Preaccepted; its <= api.Accepted; its++ {
		for status := api.Preaccepted; status <= api.Committed; status++ {
			from := stands(its, ballot(3, 3), ballot(1, 4))
			over(t, from, stands(status, ballot(3, 3), ballot(1, 4)), status >= its)
			over(t, from, stands(status, ballot(4, 0), ballot(1, 4)), status >= its)
			over(t, from, stands(status, ballot(3, 3), ballot(1, 5)), true)
			over(t, from, stands(status, ballot(3, 3), ballot(2, 4)), true)
			over(t, from, stands(status, ballot(3, 3), ballot(2, 0)), true)
			over(t, from, stands(status, ballot(3, 3), ballot(1, 3)), false)
		}
	}
	for its := api.Unknown; its <= api.Committed; its++ {
		for status := api.Unknown; status <= api.Committed; status++ {
			from, c := first(its), first(status)
			if its == api.Unknown {
				from = api.Cell{}
			}
			if status == api.Unknown {
				c = api.Cell{}
			}
			over(t, from, c, status >= its)
		}
	}
}

func TestSetOverAnUnknown(t *testing.T) { // P16.3: a promise alone
	its := promised(ballot(2, 3))
	over(t, its, its, true)
	over(t, its, promised(ballot(2, 4)), true)
	over(t, its, promised(ballot(3, 0)), true)
	over(t, its, promised(ballot(2, 2)), false)
	over(t, its, promised(ballot(1, 6)), false)
	over(t, its, api.Cell{}, false)
	for status := api.Preaccepted; status <= api.Committed; status++ {
		over(t, its, stands(status, ballot(2, 3), ballot(2, 3)), true)
		over(t, its, stands(status, ballot(2, 3), ballot(0, 0)), true)
		over(t, its, stands(status, ballot(2, 2), ballot(2, 2)), false)
		over(t, its, first(status), false)
	}
}

func TestSetByWhetherItIsTheSame(t *testing.T) { // P16.3: Same is asked for nothing
	not := with(same(ballot(1, 1)), func(c *api.Cell) { c.Same = false })
	over(t, same(ballot(1, 1)), not, true)
	over(t, not, same(ballot(1, 1)), true)
}

func TestSetOfEachOverEach(t *testing.T) { // P16.3
	taken, refusals := 0, 0
	for _, its := range cells() {
		for _, c := range cells() {
			want := !refused(its, c)
			over(t, its, c, want)
			if want {
				taken++
			} else {
				refusals++
			}
		}
	}
	if taken < 1000 || refusals < 1000 {
		t.Errorf("%d taken, %d refused: this says little", taken, refusals)
	}
}

func TestARefusedSetChangesNothing(t *testing.T) { // P16.3, R3
	l, m := New(row(2, 0, 3)), modelOf(row(2, 0, 3))
	for _, e := range []entry{
		{at(0, 3), stands(api.Committed, ballot(1, 0), ballot(1, 0))}, {at(1, 1), stands(api.Accepted, ballot(2, 0), ballot(1, 6))}, {at(6, 9), promised(ballot(4, 4))},
	} {
		if !l.Set(e.i, e.c) || !m.set(e.i, e.c) {
			t.Fatalf("Set(%d) is refused", e.i)
		}
	}
	for _, i := range []api.Inst{at(0, 2), at(2, 3), at(2, 1), at(7, 9), at(-1, 9), at(4, 1<<30+1), at(4, 0), {}} {
		for _, c := range cells() {
			if l.Set(i, c) {
				t.Errorf("Set(%d) isn't refused", i)
			}
		}
		like(t, l, m)
		if c, is := l.Cell(i); is || c != (api.Cell{}) {
			t.Errorf("Cell(%d) = %+v, %t", i, c, is)
		}
	}
	for _, i := range []api.Inst{at(0, 3), at(1, 1), at(6, 9), at(5, 5)} {
		for _, c := range wrongCells() {
			if l.Set(i, c) {
				t.Errorf("Set(%d, %+v) isn't refused", i, c)
			}
		}
		like(t, l, m)
	}
	for _, i := range []api.Inst{at(0, 3), at(1, 1), at(6, 9)} {
		its, _ := l.Cell(i)
		for _, c := range cells() {
			if refused(its, c) && l.Set(i, c) {
				t.Errorf("Set(%d, %+v) isn't refused", i, c)
			}
		}
		like(t, l, m)
	}
}

func TestTrim(t *testing.T) { // P16.4
	fill := func() (*Log, *model) {
		l, m := New(alike(1)), modelOf(alike(1))
		for r := range api.MaxNodes {
			for _, slot := range []int{2, 3, 5, 8, 1<<30 - 1, 1 << 30} {
				c := cells()[(slot+r)%len(cells())]
				if !l.Set(at(r, slot), c) || !m.set(at(r, slot), c) {
					t.Fatalf("Set(%d %d) is refused", r, slot)
				}
			}
		}
		return l, m
	}
	for _, upto := range []api.Deps{
		row(), alike(-1), alike(-1 << 63), alike(1), alike(2), alike(3), alike(4), alike(5), alike(7), alike(8), alike(9), alike(1<<30 - 2),
		alike(1<<30 - 1), alike(1 << 30), alike(1<<30 + 1), alike(1<<63 - 1), row(2, 3, 5, 8, 1<<30-1, 1<<30, 4), row(5), row(0, 0, 0, 0, 0, 0, 5), row(-9, 4, -9, 1<<40),
	} {
		l, m := fill()
		for range 2 { // the second time there is nothing left to do
			l.Trim(upto)
			m.trim(upto)
			like(t, l, m)
		}
		for r := range api.MaxNodes {
			for _, slot := range []int{1, 2, 3, 4, 5, 6, 8, 9, 1<<30 - 1, 1 << 30} {
				i := at(r, slot)
				_, is := l.Cell(i)
				if _, want := m.cell(i); is != want || l.Gone(i) != m.gone(i) || is && l.Gone(i) {
					t.Errorf("behind Trim(%d): at %d a cell: %t, gone: %t", upto, i, is, l.Gone(i))
				}
				if l.Gone(i) && l.Set(i, first(api.Committed)) {
					t.Errorf("behind Trim(%d) Set(%d) isn't refused", upto, i)
				}
			}
		}
	}
}

func TestTrimmedByTheGreater(t *testing.T) { // P16.4: row by row, whatever the cut was
	for _, c := range []struct{ cut, upto, want api.Deps }{
		{row(), row(1, 2, 3, 4, 5, 6, 7), row(1, 2, 3, 4, 5, 6, 7)},
		{row(1, 2, 3, 4, 5, 6, 7), row(), row(1, 2, 3, 4, 5, 6, 7)},
		{row(1, 2, 3, 4, 5, 6, 7), row(7, 6, 5, 4, 3, 2, 1), row(7, 6, 5, 4, 5, 6, 7)},
		{row(5, 5), row(-1, -1<<63, -1), row(5, 5)},
		{row(-5, -5), row(-9), row()},
		{row(3, 1<<30), row(1<<30+1, 2, 1<<63-1), row(1<<30, 1<<30, 1<<30)},
		{alike(1 << 30), alike(1 << 40), alike(1 << 30)},
	} {
		l := New(c.cut)
		l.Trim(c.upto)
		empty(t, l, c.want)
	}
}

func TestTrimForgets(t *testing.T) { // P16.4: what is gone doesn't come back
	l := New(row())
	l.Set(at(3, 4), first(api.Committed))
	l.Set(at(3, 6), first(api.Accepted))
	l.Trim(alone(3, 5))
	l.Trim(row())
	l.Trim(alike(-1))
	if c, is := l.Cell(at(3, 4)); is || c != (api.Cell{}) || l.Set(at(3, 4), first(api.Committed)) {
		t.Errorf("what was gone is there: %+v, %t", c, is)
	}
	like(t, l, &model{l: []entry{{at(3, 6), first(api.Accepted)}}, cut: alone(3, 5)})
}

func TestTop(t *testing.T) { // P16.5
	for r := range api.MaxNodes {
		l := New(alike(3))
		for _, c := range []struct{ slot, want int }{{9, 9}, {4, 9}, {8, 9}, {10, 10}, {2, 10}, {1 << 30, 1 << 30}, {11, 1 << 30}} {
			l.Set(at(r, c.slot), first(api.Preaccepted))
			want := alike(3)
			want[r] = c.want
			if got := l.Top(); got != want {
				t.Errorf("behind Set(%d %d): Top() = %d", r, c.slot, got)
			}
		}
	}
	// The cut counts where it is greater, and when the cell it was is gone.
	l := New(row(5, 0, 2))
	for _, i := range []api.Inst{at(0, 6), at(1, 4), at(2, 9), at(6, 1)} {
		l.Set(i, promised(ballot(0, 1)))
	}
	for _, c := range []struct{ upto, want api.Deps }{
		{row(), row(6, 4, 9, 0, 0, 0, 1)},
		{row(6, 3, 1), row(6, 4, 9, 0, 0, 0, 1)},
		{row(7, 4, 8), row(7, 4, 9, 0, 0, 0, 1)},
		{row(7, 5, 9, 2), row(7, 5, 9, 2, 0, 0, 1)},
		{alike(-1), row(7, 5, 9, 2, 0, 0, 1)},
		{alike(1 << 31), alike(1 << 30)},
	} {
		l.Trim(c.upto)
		if got := l.Top(); got != c.want {
			t.Errorf("behind Trim(%d): Top() = %d", c.upto, got)
		}
	}
	// A refused Set is no cell.
	l = New(row(1))
	for _, i := range []api.Inst{at(0, 1), at(0, 1<<30+1), at(7, 5), at(-1, 5)} {
		l.Set(i, first(api.Committed))
	}
	l.Set(at(0, 5), api.Cell{Status: 4})
	if l.Top() != row(1) {
		t.Errorf("Top() = %d", l.Top())
	}
}

func TestList(t *testing.T) { // P16.5
	want := []api.Inst{at(0, 2), at(0, 10), at(0, 1<<30), at(1, 1), at(2, 3), at(2, 4), at(5, 100), at(6, 1), at(6, 1<<30)}
	for k := range want {
		l := New(row())
		for j := range want { // in several orders, some of them set twice
			i := want[(j*4+k)%len(want)]
			l.Set(i, first(api.Preaccepted))
			l.Set(want[j/2], first(api.Accepted))
		}
		for range 20 {
			if got := l.List(); !slices.Equal(got, want) {
				t.Fatalf("List() = %d, not %d", got, want)
			}
		}
	}
	for k := range want[1:] {
		if !inst.Less(want[k], want[k+1]) {
			t.Errorf("%d isn't Less than %d", want[k], want[k+1])
		}
	}
	if got := New(alike(9)).List(); len(got) != 0 {
		t.Errorf("of none: %d", got)
	}
}

func TestListIsNewMemory(t *testing.T) { // P16.5, R2
	l, m := New(row()), modelOf(row())
	for slot := 1; slot <= 9; slot++ {
		l.Set(at(slot%2, slot), first(api.Preaccepted))
		m.set(at(slot%2, slot), first(api.Preaccepted))
	}
	one, other := l.List(), l.List()
	for k := range one[:cap(one)] {
		one[:cap(one)][k] = at(6, 6)
	}
	if !slices.Equal(other, m.list()) {
		t.Errorf("two answers share memory: %d", other)
	}
	like(t, l, m)
	l.Trim(alike(5))
	if len(other) != 9 || other[0] != at(0, 2) {
		t.Errorf("an answer is %d now", other)
	}
}

func TestWhatIsAnsweredIsNotTheLog(t *testing.T) { // R2: nor is what was handed in
	cut := row(1, 2)
	l := New(cut)
	cut[0] = 9
	c := first(api.Accepted)
	l.Set(at(3, 3), c)
	c.Attr.Deps[0], c.Status = 9, api.Committed
	got, _ := l.Cell(at(3, 3))
	got.Attr.Deps[0] = 9
	one, top := l.Cut(), l.Top()
	one[0], top[0] = 9, 9
	upto := row(0, 3)
	l.Trim(upto)
	upto[1] = 9
	like(t, l, &model{l: []entry{{at(3, 3), first(api.Accepted)}}, cut: row(1, 3)})
}

func TestAskingChangesNothing(t *testing.T) { // P16.1, P16.2, P16.5
	l, m := New(row(0, 4)), modelOf(row(0, 4))
	for k, i := range []api.Inst{at(0, 3), at(1, 5), at(4, 1)} {
		l.Set(i, cells()[k])
		m.set(i, cells()[k])
	}
	for range 3 {
		for _, replica := range edges() {
			for _, slot := range edges() {
				l.Cell(at(replica, slot))
				l.Gone(at(replica, slot))
			}
		}
		like(t, l, m)
	}
}

func TestGoneIsWhatTheCutReaches(t *testing.T) { // P16.1: by deps' words, too
	c := chance(160)
	for range 2000 {
		var cut api.Deps
		for k := range cut {
			cut[k] = c.below(6)
		}
		i := at(c.below(8), c.below(7))
		if got := New(cut).Gone(i); got != deps.Reach(cut, i) {
			t.Fatalf("cut %d: Gone(%d) = %t", cut, i, got)
		}
	}
}
