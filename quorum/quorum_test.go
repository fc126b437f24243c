package quorum

import (
	"math"
	"slices"
	"testing"

	"concord/api"
)

func TestTheNumbersAreTheChapters(t *testing.T) { // the tables are written with these
	if Wait != 0 || Commit != 1 || Accept != 2 || Again != 3 || Nothing != 4 {
		t.Fatal("what is done has other numbers")
	}
	if api.MaxNodes != 7 || api.MaxSlot != 1<<30 || api.Unknown != 0 || api.Preaccepted != 1 || api.Accepted != 2 || api.Committed != 3 {
		t.Fatal("the limits and statuses have other numbers")
	}
}

func TestSizes(t *testing.T) { // P17.1
	for _, c := range []struct {
		n          int
		fits       bool
		fast, slow int
	}{
		{3, true, 2, 2}, {5, true, 4, 3}, {7, true, 6, 4},
		{0, false, -1, 1}, {1, false, 0, 1}, {2, false, 1, 2}, {4, false, 3, 3}, {6, false, 5, 4},
		{8, false, 7, 5}, {9, false, 8, 5}, {11, false, 10, 6},
		{-1, false, -2, 1}, {-2, false, -3, 0}, {-4, false, -5, -1},
		{1<<32 + 3, false, 1<<32 + 2, 1<<31 + 2},
		{math.MaxInt, false, math.MaxInt - 1, 1 << 62},
		{math.MinInt, false, math.MaxInt, -1<<62 + 1},
	} {
		if Fits(c.n) != c.fits || Fast(c.n) != c.fast || Slow(c.n) != c.slow {
			t.Errorf("%d: %t, %d, %d", c.n, Fits(c.n), Fast(c.n), Slow(c.n))
		}
	}
}

func TestFitsNoOthers(t *testing.T) { // P17.1
	for n := -1000; n <= 1000; n++ {
		if Fits(n) != slices.Contains([]int{3, 5, 7}, n) {
			t.Errorf("Fits(%d) = %t", n, Fits(n))
		}
	}
	for _, n := range edges() {
		if Fits(n) != slices.Contains([]int{3, 5, 7}, n) {
			t.Errorf("Fits(%d) = %t", n, Fits(n))
		}
	}
}

func TestNoop(t *testing.T) { // P17.1
	for _, c := range []struct {
		i    api.Inst
		want api.Attr
	}{
		{at(0, 5), attr(0, 4)}, // as the run of layer 18 has it
		{at(0, 1), api.Attr{}},
		{at(0, 2), attr(0, 1)},
		{at(3, 9), attr(0, 0, 0, 0, 8)},
		{at(6, 1), api.Attr{}},
		{at(6, 1<<30), attr(0, 0, 0, 0, 0, 0, 0, 1<<30-1)},
		{at(6, 1<<30+1), api.Attr{}},
		{at(0, 0), api.Attr{}},
		{at(0, -1), api.Attr{}},
		{at(7, 5), api.Attr{}},
		{at(-1, 5), api.Attr{}},
		{at(1<<32, 5), api.Attr{}},
		{at(0, math.MinInt), api.Attr{}},
		{at(math.MinInt, math.MinInt), api.Attr{}},
		{at(math.MaxInt, math.MaxInt), api.Attr{}},
	} {
		if got := Noop(c.i); got != c.want {
			t.Errorf("Noop(%d) = %d", c.i, got)
		}
	}
}

func TestNoopGoesByItsRowAlone(t *testing.T) { // P17.1
	slots := append(edges(), 1<<30-1, 1<<30, 1<<30+1)
	for _, replica := range edges() {
		for _, slot := range slots {
			var want api.Attr
			if replica >= 0 && replica <= 6 && slot >= 1 && slot <= 1073741824 {
				want.Deps[replica] = slot - 1
			}
			if got := Noop(at(replica, slot)); got != want {
				t.Errorf("Noop(%d %d) = %d", replica, slot, got)
			}
		}
	}
}

func TestPre(t *testing.T) { // P17.2 and the runs
	a, b, c := attrA(), attrB(), attrC()
	ab, ac, abc := attr(3, 4, 0, 5, 0, 0, 0, 2), attr(9, 1, 7, 5), attr(9, 4, 7, 5, 0, 0, 0, 2)
	zero := api.Attr{}
	for i, o := range []struct {
		n       int
		first   bool
		replies []api.Attr
		late    bool
		what    int
		want    api.Attr
	}{
		{3, true, []api.Attr{a}, false, Commit, a}, // the runs
		{5, true, []api.Attr{a, a}, false, Wait, zero},
		{5, true, []api.Attr{a, b, b}, false, Accept, ab},
		{5, true, []api.Attr{a, a}, true, Accept, a},

		{3, true, nil, false, Wait, zero},
		{3, true, nil, true, Wait, zero},
		{3, true, []api.Attr{a}, true, Commit, a}, // being late takes no fast path away
		{3, true, []api.Attr{a, a}, false, Commit, a},
		{3, true, []api.Attr{a, b}, false, Commit, a},
		{3, true, []api.Attr{b, a}, true, Commit, a},
		{3, true, []api.Attr{b}, false, Wait, zero},
		{3, true, []api.Attr{b}, true, Accept, ab},
		{3, true, []api.Attr{b, c}, false, Accept, abc},
		{3, true, []api.Attr{c, b}, true, Accept, abc},
		{3, false, nil, true, Wait, zero},
		{3, false, []api.Attr{a}, false, Accept, a}, // only the first ballot has a fast path
		{3, false, []api.Attr{b}, false, Accept, ab},
		{3, false, []api.Attr{a, a}, true, Accept, a},

		{5, true, []api.Attr{a}, true, Wait, zero},
		{5, true, []api.Attr{b}, true, Wait, zero},
		{5, true, []api.Attr{a, b}, false, Wait, zero},
		{5, true, []api.Attr{a, b}, true, Accept, ab},
		{5, true, []api.Attr{b, c}, false, Accept, abc},
		{5, true, []api.Attr{b, b}, false, Accept, ab}, // two that are one another's are two
		{5, true, []api.Attr{a, a, a}, false, Commit, a},
		{5, true, []api.Attr{a, a, a}, true, Commit, a},
		{5, true, []api.Attr{a, a, b}, false, Wait, zero},
		{5, true, []api.Attr{a, a, b}, true, Accept, ab},
		{5, true, []api.Attr{b, a, a, a}, false, Commit, a},
		{5, true, []api.Attr{a, a, b, c}, false, Accept, abc},
		{5, false, []api.Attr{a}, false, Wait, zero},
		{5, false, []api.Attr{a}, true, Wait, zero},
		{5, false, []api.Attr{a, c}, false, Accept, ac},
		{5, false, []api.Attr{a, a, a, a}, false, Accept, a},

		{7, true, []api.Attr{a, a, a, a}, false, Wait, zero},
		{7, true, []api.Attr{a, a, a, a, a}, false, Commit, a},
		{7, true, []api.Attr{a, a, a, a, b, a}, false, Commit, a},
		{7, true, []api.Attr{a, a, a, a, b}, false, Wait, zero},
		{7, true, []api.Attr{a, a, a, a, b, b}, false, Accept, ab},
		{7, true, []api.Attr{b, c}, true, Wait, zero},
		{7, true, []api.Attr{b, c}, false, Wait, zero},
		{7, true, []api.Attr{a, b, c}, false, Accept, abc},
		{7, true, []api.Attr{a, a, a}, true, Accept, a},
		{7, false, []api.Attr{a, a}, true, Wait, zero},
		{7, false, []api.Attr{a, a, c}, false, Accept, ac},
	} {
		if what, got := Pre(o.n, o.first, a, o.replies, o.late); what != o.what || got != o.want {
			t.Errorf("%d: %d, %d", i, what, got)
		}
	}
}

// answered looks whether Pre answers what the words ask.
func answered(t *testing.T, n int, first bool, own api.Attr, replies []api.Attr, late bool) {
	t.Helper()
	wantWhat, want := preOf(n, first, own, replies, late)
	if what, got := Pre(n, first, own, replies, late); what != wantWhat || got != want {
		t.Fatalf("Pre(%d, %t, %d, %d, %t) = %d, %d; not %d, %d", n, first, own, replies, late, what, got, wantWhat, want)
	}
}

// everyPre looks at each first and late.
func everyPre(t *testing.T, n int, own api.Attr, replies []api.Attr) {
	t.Helper()
	for k := range 4 {
		answered(t, n, k%2 == 0, own, replies, k/2 == 0)
	}
}

func TestPreOfEachRowOfReplies(t *testing.T) { // P17.2: of any n, also of those that don't fit, and of more replies than others
	for _, n := range edges() {
		for count := range 9 {
			for bits := range 1 << count {
				var replies []api.Attr
				for k := range count {
					if bits>>k&1 == 1 {
						replies = append(replies, attrA())
					} else {
						replies = append(replies, []api.Attr{attrB(), attrC()}[k%2])
					}
				}
				everyPre(t, n, attrA(), replies)
			}
		}
	}
}

func TestPreTellsAttributesApartByEachNumber(t *testing.T) { // P17.2, Ways
	own := attr(1, 2, 3, 4, 5, 6, 7, 8)
	if what, got := Pre(3, true, own, []api.Attr{attr(1, 2, 3, 4, 5, 6, 7, 8)}, false); what != Commit || got != own {
		t.Errorf("the same: %d, %d", what, got)
	}
	for place := range 1 + api.MaxNodes {
		for _, more := range []int{1, -1, 1 << 32, 1 << 62} { // also beyond what a narrower number tells apart
			b := own
			if place == api.MaxNodes {
				b.Seq += more
			} else {
				b.Deps[place] += more
			}
			if what, got := Pre(3, true, own, []api.Attr{b}, false); what != Wait || got != (api.Attr{}) {
				t.Errorf("%d: %d, %d", b, what, got)
			}
			everyPre(t, 3, own, []api.Attr{b, b})
			everyPre(t, 5, own, []api.Attr{own, b, own})
		}
	}
}

func TestPreOfAttributesThatAreNotRight(t *testing.T) { // R1: they are held and joined as others
	low, high := alike(math.MinInt, math.MinInt), alike(math.MaxInt, math.MaxInt)
	below := alike(-5, -7)
	all := []api.Attr{{}, low, high, below, attr(-9, 1, -1), alike(1<<40+1, 1<<30+1)}
	for _, own := range all {
		for _, b := range all {
			for _, c := range all {
				for n := -4; n < 6; n++ {
					everyPre(t, n, own, nil)
					everyPre(t, n, own, []api.Attr{b})
					everyPre(t, n, own, []api.Attr{b, c})
				}
			}
		}
	}
	if what, got := Pre(3, false, below, []api.Attr{low}, false); what != Accept || got != below {
		t.Errorf("joined with lesser ones: %d, %d", what, got)
	}
	if what, got := Pre(1, false, below, nil, false); what != Accept || got != below {
		t.Errorf("joined with none: %d, %d", what, got)
	}
}

func TestPreOfNoReplies(t *testing.T) { // R4
	for _, n := range edges() {
		for k := range 4 {
			first, late := k%2 == 0, k/2 == 0
			what, got := Pre(n, first, attrA(), nil, late)
			if what2, got2 := Pre(n, first, attrA(), []api.Attr{}, late); what2 != what || got2 != got {
				t.Errorf("%d: nil and empty are not the same", n)
			}
			everyPre(t, n, attrA(), nil)
		}
	}
}

func TestPreOfManyReplies(t *testing.T) { // P17.2: the order of the replies doesn't matter
	c := chance(1)
	some := []api.Attr{attrA(), attrA(), attrB(), attrC(), {}, attr(3, 1, 0, 6), alike(1<<40, 1<<30)}
	for range 50000 {
		var replies []api.Attr
		for range c.below(10) {
			replies = append(replies, some[c.below(len(some))])
		}
		n, own := c.below(12)-1, some[c.below(len(some))]
		everyPre(t, n, own, replies)
		what, got := Pre(n, n%2 == 0, own, replies, true)
		slices.Reverse(replies)
		if what2, got2 := Pre(n, n%2 == 0, own, replies, true); what2 != what || got2 != got {
			t.Fatalf("Pre(%d, %d): turned round it is another one", n, replies)
		}
	}
	replies := slices.Repeat([]api.Attr{attrA()}, 1<<16)
	everyPre(t, 1<<16+1, attrA(), replies)
	everyPre(t, 1<<16+2, attrA(), replies)
	everyPre(t, 1<<17+1, attrA(), replies)
	everyPre(t, 1<<17+2, attrA(), replies)
}

func TestPreChangesNothing(t *testing.T) { // R2, R5
	room := []api.Attr{attrA(), attrB(), attrC(), attr(7, 7, 7, 7), attr(8, 8, 8, 8), attr(9, 9, 9, 9)}
	before := slices.Clone(room)
	for count := range 4 {
		for _, n := range []int{3, 5, 7} {
			everyPre(t, n, attr(5, 0, 0, 0, 6), room[:count]) // what stands behind the list doesn't count
		}
	}
	if what, got := Pre(3, false, attr(5, 0, 0, 0, 6), room[:2], false); what != Accept || got != attr(5, 4, 0, 5, 6, 0, 0, 2) {
		t.Errorf("%d, %d", what, got)
	}
	if !slices.Equal(room, before) {
		t.Errorf("what was handed in is %d now", room)
	}
}
