package interf

import (
	"math"
	"strings"
	"testing"

	"concord/api"
	"concord/cmd"
	"concord/deps"
)

func TestTheNumbersAreTheChapters(t *testing.T) { // the tables are written with these
	if api.MaxNodes != 7 || api.MaxSlot != 1<<30 || api.MaxAttr != 1<<40 || api.MaxOwner != 8 {
		t.Fatal("the limits have other numbers")
	}
	if api.KGet != 1 || api.KPut != 2 || api.KDelete != 3 || api.KSwap != 4 || api.KRange != 5 {
		t.Fatal("the kinds have other numbers")
	}
}

func TestRuns(t *testing.T) { // the chapter's runs
	x := New()
	if !x.Note(at(0, 1), put(1, "a"), 4) || !x.Note(at(1, 3), get(2, "a"), 2) {
		t.Fatal("a Note is refused")
	}
	if a := x.Attr(at(2, 1), put(3, "a")); a != attr(5, 1, 3) {
		t.Errorf("of a put: %d", a)
	}
	if a := x.Attr(at(2, 1), get(3, "a")); a != attr(5, 1) {
		t.Errorf("of a get: %d", a)
	}
	if a := x.Attr(at(0, 5), get(3, "b")); a != attr(0, 4) {
		t.Errorf("of another key: %d", a)
	}
	x.Prune(row(9, 0))
	if a := x.Attr(at(2, 1), get(3, "a")); a != attr(0, 9) || x.Len() != 1 {
		t.Errorf("behind Prune: %d, %d known", a, x.Len())
	}
}

func TestNew(t *testing.T) { // P14.1
	x := New()
	if x.Len() != 0 || x.Cut() != row() {
		t.Errorf("Len() = %d, Cut() = %d", x.Len(), x.Cut())
	}
	for _, i := range []api.Inst{{}, at(0, 1), at(6, 1), at(-1, -1), at(7, 9)} {
		if a := x.Attr(i, scan(1, "", "")); a != attr(0) {
			t.Errorf("Attr(%d) = %d", i, a)
		}
	}
	y := New()
	x.Note(at(1, 2), put(1, "a"), 3)
	x.Prune(row(4))
	if y.Len() != 0 || y.Cut() != row() || New().Len() != 0 || New().Cut() != row() {
		t.Error("what one Index is told another one knows")
	}
}

func TestNote(t *testing.T) { // P14.2: ordinary inputs, edges, and wrong inputs
	long := strings.Repeat("k", 17)
	for i, c := range []struct {
		i    api.Inst
		c    api.Command
		seq  int
		want bool
	}{
		{at(0, 1), put(1, "a"), 0, true},
		{at(6, 1), get(8, "a"), 1, true},
		{at(0, 1<<30), del(1, "a"), 1, true},
		{at(6, 1<<30), swap(1, "a"), 1 << 40, true},
		{at(3, 7), scan(1, "", ""), 1<<40 - 1, true},
		{at(3, 7), api.Command{}, 5, true},
		{at(3, 7), api.Command{}, 0, true},
		{at(3, 7), scan(1, "b", "a"), 5, true},
		{at(3, 7), put(1, strings.Repeat("k", 16)), 5, true},
		{at(0, 0), put(1, "a"), 1, false},
		{at(0, -1), put(1, "a"), 1, false},
		{at(0, 1<<30+1), put(1, "a"), 1, false},
		{at(-1, 1), put(1, "a"), 1, false},
		{at(7, 1), put(1, "a"), 1, false},
		{at(7, 0), put(1, "a"), 1, false},
		{at(math.MaxInt, math.MaxInt), put(1, "a"), 1, false},
		{at(math.MinInt, math.MinInt), put(1, "a"), 1, false},
		{at(3, 7), put(1, "a"), -1, false},
		{at(3, 7), put(1, "a"), 1<<40 + 1, false},
		{at(3, 7), put(1, "a"), math.MinInt, false},
		{at(3, 7), put(1, "a"), math.MaxInt, false},
		{at(3, 7), api.Command{}, -1, false},
		{at(3, 7), put(0, "a"), 1, false},
		{at(3, 7), put(9, "a"), 1, false},
		{at(3, 7), put(1, ""), 1, false},
		{at(3, 7), put(1, long), 1, false},
		{at(3, 7), scan(1, "", long), 1, false},
		{at(3, 7), api.Command{Kind: 6, Client: 1, Seq: 1, Key: "a"}, 1, false},
		{at(3, 7), api.Command{Kind: -1, Client: 1, Seq: 1, Key: "a"}, 1, false},
		{at(3, 7), api.Command{Client: 1, Seq: 1}, 1, false},
		{at(3, 7), api.Command{Kind: 1, Client: 1, Seq: 0, Key: "a"}, 1, false},
		{at(3, 7), api.Command{Kind: 1, Client: 1, Seq: 1, Key: "a", Value: "v"}, 1, false},
		{at(7, 0), put(0, ""), -1, false},
	} {
		x := New()
		if got := x.Note(c.i, c.c, c.seq); got != c.want {
			t.Errorf("%d: Note(%d, %v, %d) = %t", i, c.i, c.c, c.seq, got)
		}
		if known := x.Len(); known > 1 || (known == 1) != c.want {
			t.Errorf("%d: behind Note(%d, %v, %d) %d are known", i, c.i, c.c, c.seq, known)
		}
	}
}

func TestNoteByEachNumber(t *testing.T) { // P14.2
	for _, replica := range edges() {
		for _, slot := range edges() {
			i := at(replica, slot)
			if x := New(); x.Note(i, put(1, "a"), 1) != isInst(i) {
				t.Errorf("Note(%d) = %t", i, !isInst(i))
			}
		}
	}
}

func TestNoteAboveTheCut(t *testing.T) { // P14.2
	for r := range 7 {
		for _, c := range []struct {
			cut, slot int
			want      bool
		}{
			{0, 1, true}, {1, 1, false}, {1, 2, true}, {5, 1, false}, {5, 4, false}, {5, 5, false}, {5, 6, true}, {5, 1 << 30, true},
			{1<<30 - 1, 1<<30 - 1, false}, {1<<30 - 1, 1 << 30, true}, {1 << 30, 1 << 30, false}, {1 << 30, 1<<30 + 1, false},
		} {
			x := New()
			upto := row()
			upto[r] = c.cut
			x.Prune(upto)
			if got := x.Note(at(r, c.slot), put(1, "a"), 1); got != c.want {
				t.Errorf("above %d: Note(%d %d) = %t", c.cut, r, c.slot, got)
			}
			// Another replica's cut is nothing to it.
			if other := (r + 3) % 7; !x.Note(at(other, 1), put(1, "a"), 1) {
				t.Errorf("above %d of %d: Note(%d 1) is refused", c.cut, r, other)
			}
		}
	}
}

func TestNoteInThePlace(t *testing.T) { // P14.2
	x := New()
	x.Note(at(1, 4), put(1, "a"), 9)
	if !x.Note(at(1, 4), get(2, "b"), 3) || x.Len() != 1 {
		t.Fatalf("%d are known", x.Len())
	}
	if a := x.Attr(at(0, 1), put(3, "a")); a != attr(0) {
		t.Errorf("what stood there is known on: %d", a)
	}
	if a := x.Attr(at(0, 1), put(3, "b")); a != attr(4, 0, 4) {
		t.Errorf("what stands there isn't known: %d", a)
	}
	// The zero command clashes with nothing, but is known.
	if !x.Note(at(1, 4), api.Command{}, 3) || x.Len() != 1 {
		t.Fatalf("%d are known", x.Len())
	}
	if a := x.Attr(at(0, 1), put(3, "b")); a != attr(0) {
		t.Errorf("behind nothing: %d", a)
	}
	// The same command with a lesser seq.
	x.Note(at(1, 4), put(1, "a"), 9)
	x.Note(at(1, 4), put(1, "a"), 2)
	if a := x.Attr(at(0, 1), put(3, "a")); a != attr(3, 0, 4) {
		t.Errorf("of the lesser seq: %d", a)
	}
}

func TestARefusedNoteChangesNothing(t *testing.T) { // P14.2, R3
	x := New()
	x.Prune(row(2, 0, 3))
	x.Note(at(0, 3), put(1, "a"), 5)
	x.Note(at(1, 1), put(2, "b"), 6)
	before := told(x)
	for i, c := range []struct {
		i   api.Inst
		c   api.Command
		seq int
	}{
		{at(0, 2), put(1, "a"), 50},
		{at(2, 3), put(1, "a"), 50},
		{at(0, 3), put(1, ""), 50},
		{at(0, 3), api.Command{Kind: 7, Client: 1, Seq: 1, Key: "a"}, 50},
		{at(0, 3), put(1, "a"), -1},
		{at(0, 3), put(1, "a"), 1<<40 + 1},
		{at(1, 1), put(9, "b"), 50},
		{at(7, 9), put(1, "a"), 50},
		{at(-1, 9), put(1, "a"), 50},
		{at(4, 1<<30+1), put(1, "a"), 50},
	} {
		if x.Note(c.i, c.c, c.seq) {
			t.Errorf("%d: isn't refused", i)
		}
		if after := told(x); !equal(after, before) {
			t.Fatalf("%d: a refused Note changes %d to %d", i, before, after)
		}
	}
}

func TestAttrByRows(t *testing.T) { // P14.3
	x := New()
	for r := range 7 {
		// The greatest slot isn't that of the greatest seq, and neither comes last.
		for _, e := range [][2]int{{4, 10 + r}, {9, 3}, {2, 7}, {5, 0}} {
			if !x.Note(at(r, e[0]), put(1, "a"), e[1]) {
				t.Fatal("a Note is refused")
			}
		}
	}
	for r := range 7 {
		want := api.Attr{Seq: 17, Deps: alike(9)}
		want.Deps[r] = 99
		if a := x.Attr(at(r, 100), get(2, "a")); a != want {
			t.Errorf("Attr(%d 100) = %d", r, a)
		}
	}
	want := api.Attr{Seq: 17, Deps: alike(9)}
	for _, i := range []api.Inst{at(7, 1), at(-1, 1), at(7, 1<<40), at(math.MaxInt, 3), at(math.MinInt, 3), at(3, 1<<30+1), at(3, math.MaxInt)} {
		if a := x.Attr(i, get(2, "a")); a != want {
			t.Errorf("Attr(%d) = %d", i, a)
		}
	}
	if a := x.Attr(at(7, 1), get(2, "b")); a != attr(0) {
		t.Errorf("of what clashes with none: %d", a)
	}
}

func TestAttrLeavesOut(t *testing.T) { // P14.3, P14.5
	x := New()
	x.Note(at(2, 3), put(1, "a"), 30)
	x.Note(at(2, 5), put(1, "a"), 50)
	x.Note(at(2, 7), put(1, "a"), 70)
	x.Note(at(4, 6), put(1, "a"), 10)
	for i, c := range []struct {
		i    api.Inst
		want api.Attr
	}{
		{at(2, 5), attr(31, 0, 0, 4, 0, 6)}, // neither itself nor the one behind
		{at(2, 6), attr(51, 0, 0, 5, 0, 6)},
		{at(2, 7), attr(51, 0, 0, 6, 0, 6)},
		{at(2, 8), attr(71, 0, 0, 7, 0, 6)},
		{at(2, 9), attr(71, 0, 0, 8, 0, 6)},
		{at(2, 4), attr(31, 0, 0, 3, 0, 6)},
		{at(2, 3), attr(11, 0, 0, 2, 0, 6)},
		{at(2, 1), attr(11, 0, 0, 0, 0, 6)},
		{at(2, 0), attr(11, 0, 0, 0, 0, 6)},
		{at(2, -1), attr(11, 0, 0, 0, 0, 6)},
		{at(2, math.MinInt), attr(11, 0, 0, 0, 0, 6)},
		{at(2, 1<<30), attr(71, 0, 0, 1<<30-1, 0, 6)},
		{at(2, 1<<30+1), attr(71, 0, 0, 7, 0, 6)}, // it isn't right: nothing of its own row is asked for
		{at(2, math.MaxInt), attr(71, 0, 0, 7, 0, 6)},
		{at(4, 6), attr(71, 0, 0, 7, 0, 5)},
		{at(4, 7), attr(71, 0, 0, 7, 0, 6)},
		{at(4, 1), attr(71, 0, 0, 7, 0, 0)},
		{at(0, 1), attr(71, 0, 0, 7, 0, 6)}, // of other rows none is left out
		{at(0, 0), attr(71, 0, 0, 7, 0, 6)},
		{at(7, 1), attr(71, 0, 0, 7, 0, 6)},
		{at(-1, 4), attr(71, 0, 0, 7, 0, 6)},
	} {
		if a := x.Attr(c.i, get(2, "a")); a != c.want {
			t.Errorf("%d: Attr(%d) = %d", i, c.i, a)
		}
	}
	if x.Len() != 4 {
		t.Errorf("Attr changed how many are known: %d", x.Len())
	}
}

func TestAttrOfOnesOwnInstance(t *testing.T) { // P14.3: what stands at i already isn't what it depends on
	x := New()
	x.Note(at(0, 1), put(1, "a"), 8)
	if a := x.Attr(at(0, 1), put(1, "a")); a != attr(0) {
		t.Errorf("Attr = %d", a)
	}
	// At the same slot of another row stands another one.
	if a := x.Attr(at(1, 1), put(1, "a")); a != attr(9, 1) {
		t.Errorf("Attr = %d", a)
	}
}

func TestAttrBySeq(t *testing.T) { // P14.3: the edges of seq
	for _, c := range []struct{ seq, want int }{{0, 1}, {1, 2}, {1<<31 - 1, 1 << 31}, {1<<40 - 1, 1 << 40}, {1 << 40, 1<<40 + 1}} {
		x := New()
		x.Note(at(0, 1), put(1, "a"), c.seq)
		if a := x.Attr(at(1, 1), put(2, "a")); a != attr(c.want, 1) {
			t.Errorf("behind %d: %d", c.seq, a)
		}
	}
}

func TestAttrByClash(t *testing.T) { // P14.3: which two clash is cmd's to say, of any commands
	var l []api.Command
	for _, client := range []int{1, 2} {
		l = append(l, get(client, "a"), put(client, "a"), del(client, "a"), swap(client, "a"), get(client, "b"), put(client, "b"),
			scan(client, "", ""), scan(client, "a", "b"), scan(client, "b", ""), scan(client, "b", "a"), scan(client, "", "a"))
	}
	l = append(l, api.Command{})
	odd := append([]api.Command{}, l...)
	odd = append(odd, put(9, "a"), put(0, "a"), put(-1, ""), get(1<<40, "a"), scan(9, "", strings.Repeat("k", 99)),
		api.Command{Kind: 6, Client: 1, Key: "a"}, api.Command{Kind: -1, Client: 1, Key: "a"}, api.Command{Client: 1, Key: "a"})
	met := 0
	for _, stands := range l {
		x := New()
		if !x.Note(at(3, 4), stands, 5) {
			t.Fatalf("Note of %v is refused", stands)
		}
		for _, c := range odd {
			want := attr(0)
			if clash(stands, c) {
				want = attr(6, 0, 0, 0, 4)
				met++
			}
			if a := x.Attr(at(0, 1), c); a != want {
				t.Errorf("of %v by %v: %d", c, stands, a)
			}
			if cmd.Clash(stands, c) != clash(stands, c) {
				t.Errorf("Clash(%v, %v) = %t", stands, c, !clash(stands, c))
			}
		}
	}
	if met < 200 || met > len(l)*len(odd)-200 {
		t.Errorf("%d of %d clash: this says little", met, len(l)*len(odd))
	}
}

func TestAttrAtLeast(t *testing.T) { // P14.3: of what clashes with nothing
	const last = 1 << 30
	for i, c := range []struct {
		cut  api.Deps
		i    api.Inst
		want api.Deps
	}{
		{row(), at(0, 1), row()},
		{row(), at(0, 2), row(1)},
		{row(), at(6, 9), row(0, 0, 0, 0, 0, 0, 8)},
		{row(), at(0, last), row(last - 1)},
		{row(), at(0, last+1), row()},
		{row(), at(0, 0), row()},
		{row(), at(7, 5), row()},
		{row(1, 2, 3, 4, 5, 6, 7), at(0, 9), row(8, 2, 3, 4, 5, 6, 7)},
		{row(1, 2, 3, 4, 5, 6, 7), at(6, 9), row(1, 2, 3, 4, 5, 6, 8)},
		{row(1, 2, 3, 4, 5, 6, 7), at(3, 5), row(1, 2, 3, 4, 5, 6, 7)},
		// Of its own row what is ahead of it, though the cut is further.
		{row(1, 2, 3, 4, 5, 6, 7), at(3, 4), row(1, 2, 3, 3, 5, 6, 7)},
		{row(1, 2, 3, 4, 5, 6, 7), at(6, 1), row(1, 2, 3, 4, 5, 6, 0)},
		{alike(last), at(2, last), row(last, last, last-1, last, last, last, last)},
		// It isn't right: of its own row nothing, if it has one; of all the cut, if it has none.
		{row(1, 2, 3, 4, 5, 6, 7), at(3, 0), row(1, 2, 3, 0, 5, 6, 7)},
		{row(1, 2, 3, 4, 5, 6, 7), at(0, -5), row(0, 2, 3, 4, 5, 6, 7)},
		{row(1, 2, 3, 4, 5, 6, 7), at(6, last+1), row(1, 2, 3, 4, 5, 6, 0)},
		{row(1, 2, 3, 4, 5, 6, 7), at(5, math.MinInt), row(1, 2, 3, 4, 5, 0, 7)},
		{row(1, 2, 3, 4, 5, 6, 7), at(5, math.MaxInt), row(1, 2, 3, 4, 5, 0, 7)},
		{row(1, 2, 3, 4, 5, 6, 7), at(7, 5), row(1, 2, 3, 4, 5, 6, 7)},
		{row(1, 2, 3, 4, 5, 6, 7), at(-1, 5), row(1, 2, 3, 4, 5, 6, 7)},
		{row(1, 2, 3, 4, 5, 6, 7), at(1<<32, 5), row(1, 2, 3, 4, 5, 6, 7)},
		{row(1, 2, 3, 4, 5, 6, 7), at(math.MaxInt, math.MaxInt), row(1, 2, 3, 4, 5, 6, 7)},
		{row(1, 2, 3, 4, 5, 6, 7), at(math.MinInt, math.MinInt), row(1, 2, 3, 4, 5, 6, 7)},
	} {
		x := New()
		x.Prune(c.cut)
		for _, command := range []api.Command{{}, put(1, "a"), scan(1, "", ""), {Kind: 9}} {
			if a := x.Attr(c.i, command); a != (api.Attr{Deps: c.want}) {
				t.Errorf("%d: Attr(%d, %v) = %d", i, c.i, command, a)
			}
		}
		if x.Cut() != c.cut || x.Len() != 0 {
			t.Errorf("%d: Attr changed the cut to %d", i, x.Cut())
		}
	}
}

func TestAttrAtLeastBesideWhatClashes(t *testing.T) { // P14.3: the greater of both, row by row
	x := New()
	x.Note(at(0, 5), put(1, "a"), 2)
	x.Note(at(1, 5), put(1, "b"), 9)
	x.Note(at(2, 5), put(1, "a"), 1)
	x.Prune(row(3, 3, 0, 3))
	if a := x.Attr(at(4, 8), get(2, "a")); a != attr(3, 5, 3, 5, 3, 7) {
		t.Errorf("Attr = %d", a)
	}
	if a := x.Attr(at(0, 9), get(2, "a")); a != attr(3, 8, 3, 5, 3) {
		t.Errorf("Attr = %d", a)
	}
	if a := x.Attr(at(0, 5), get(2, "a")); a != attr(2, 4, 3, 5, 3) {
		t.Errorf("Attr = %d", a)
	}
}

func TestPrune(t *testing.T) { // P14.4
	const last = 1 << 30
	for i, c := range []struct {
		upto []api.Deps
		want api.Deps
	}{
		{nil, row()},
		{[]api.Deps{row()}, row()},
		{[]api.Deps{row(1, 2, 3, 4, 5, 6, 7)}, row(1, 2, 3, 4, 5, 6, 7)},
		{[]api.Deps{row(1, 5), row(3, 2)}, row(3, 5)},
		{[]api.Deps{row(3, 2), row(1, 5)}, row(3, 5)},
		{[]api.Deps{row(3), row()}, row(3)},
		{[]api.Deps{row(3), row(3)}, row(3)},
		{[]api.Deps{alike(-1)}, row()},
		{[]api.Deps{alike(math.MinInt)}, row()},
		{[]api.Deps{row(4, 4), row(-1, 5)}, row(4, 5)},
		{[]api.Deps{alike(last)}, alike(last)},
		{[]api.Deps{alike(last + 1)}, alike(last)},
		{[]api.Deps{alike(math.MaxInt)}, alike(last)},
		{[]api.Deps{row(0, last-1, 1<<32, 1<<32+1)}, row(0, last-1, last, last)},
		{[]api.Deps{alike(math.MaxInt), alike(math.MinInt)}, alike(last)},
		{[]api.Deps{row(0, 0, 0, 0, 0, 0, 9), row(0, 0, 0, 0, 0, 0, -9)}, row(0, 0, 0, 0, 0, 0, 9)},
	} {
		x := New()
		for _, upto := range c.upto {
			x.Prune(upto)
		}
		if x.Cut() != c.want {
			t.Errorf("%d: Cut() = %d", i, x.Cut())
		}
	}
}

func TestPruneForgets(t *testing.T) { // P14.4: just what isn't above the cut
	for r := range 7 {
		x := New()
		for slot := 1; slot <= 6; slot++ {
			for other := range 7 {
				x.Note(at(other, slot), put(1, "a"), 10*slot)
			}
		}
		for upto := -1; upto <= 7; upto++ {
			d := row()
			d[r] = upto
			x.Prune(d)
			if want := 42 - min(max(upto, 0), 6); x.Len() != want {
				t.Errorf("up to %d of %d: %d are known", upto, r, x.Len())
			}
		}
	}
	x := New()
	x.Note(at(0, 4), put(1, "a"), 40)
	x.Note(at(0, 5), put(2, "b"), 50)
	x.Note(at(0, 1<<30), put(3, "c"), 60)
	x.Prune(row(4))
	if a := x.Attr(at(1, 1), get(8, "a")); a != attr(0, 4) || x.Len() != 2 {
		t.Errorf("of what was forgotten: %d, %d known", a, x.Len())
	}
	if a := x.Attr(at(1, 1), get(8, "b")); a != attr(51, 5) {
		t.Errorf("of what wasn't: %d", a)
	}
	x.Prune(row(1<<30 - 1))
	if a := x.Attr(at(1, 1), get(8, "c")); a != attr(61, 1<<30) || x.Len() != 1 {
		t.Errorf("of the last one: %d, %d known", a, x.Len())
	}
	x.Prune(row(math.MaxInt))
	if a := x.Attr(at(1, 1), get(8, "c")); a != attr(0, 1<<30) || x.Len() != 0 {
		t.Errorf("of none: %d, %d known", a, x.Len())
	}
}

func TestPruneByTheCutNotByUpto(t *testing.T) { // P14.4: what another Prune cut off doesn't come again
	x := New()
	x.Prune(row(5, 1))
	x.Prune(row(2, 3))
	for _, i := range []api.Inst{at(0, 3), at(0, 5), at(1, 2), at(1, 3)} {
		if x.Note(i, put(1, "a"), 1) {
			t.Errorf("Note(%d) isn't refused", i)
		}
	}
	if !x.Note(at(0, 6), put(1, "a"), 1) || !x.Note(at(1, 4), put(1, "a"), 1) || x.Len() != 2 {
		t.Error("above the cut a Note is refused")
	}
}

func TestCutIsAValue(t *testing.T) { // R2, R5
	x := New()
	x.Prune(row(1, 2, 3))
	d := x.Cut()
	d[0], d[6] = 77, 77
	if x.Cut() != row(1, 2, 3) {
		t.Errorf("Cut() = %d", x.Cut())
	}
	upto := row(4)
	x.Prune(upto)
	if upto[0] = 99; x.Cut() != row(4, 2, 3) {
		t.Errorf("Cut() = %d", x.Cut())
	}
}

func TestReached(t *testing.T) { // P14.5: each pair of kinds that clash, at each pair of places
	kinds := []api.Command{get(1, "a"), put(2, "a"), del(3, "a"), swap(4, "a"), scan(5, "", ""), get(1, "z"), put(2, "z"), scan(5, "y", "")}
	for _, first := range kinds {
		for _, second := range kinds {
			for place := range 49 {
				one, two := at(place/7, 4), at(place%7, 6)
				x := New()
				x.Note(one, first, 12)
				a := x.Attr(two, second)
				if cmd.Clash(first, second) && (!deps.Reach(a.Deps, one) || a.Seq <= 12) {
					t.Errorf("%v at %d doesn't reach %v at %d: %d", second, two, first, one, a)
				}
				x.Prune(row(4, 4, 4, 4, 4, 4, 4))
				if pruned := x.Attr(two, second); cmd.Clash(first, second) && !deps.Reach(pruned.Deps, one) || !deps.Covers(pruned.Deps, a.Deps) {
					t.Errorf("pruned: %d, and ahead %d", pruned, a)
				}
			}
		}
	}
}
