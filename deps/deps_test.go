package deps

import (
	"bytes"
	"math"
	"slices"
	"strings"
	"testing"

	"concord/api"
	"concord/pack"
)

// row is deps of these slots, and nought behind them.
func row(slots ...int) api.Deps {
	var d api.Deps
	copy(d[:], slots)
	return d
}

func attr(seq int, slots ...int) api.Attr { return api.Attr{Seq: seq, Deps: row(slots...)} }

// alike is deps with this slot in each row.
func alike(slot int) api.Deps {
	return row(slot, slot, slot, slot, slot, slot, slot)
}

// numbers rise; those about each limit, and about where numbers end, are among them.
func numbers() []int {
	return []int{
		math.MinInt, math.MinInt + 1, -1 << 32, -1 << 31, -65, -2, -1, 0, 1, 2, 5, 63, 64,
		1<<30 - 1, 1 << 30, 1<<30 + 1, 1 << 31, 1 << 32, 1<<32 + 1, 1<<40 - 1, 1 << 40, 1<<40 + 1, math.MaxInt - 1, math.MaxInt,
	}
}

// chance makes numbers that look like chance, the same ones at each run.
type chance uint64

func (c *chance) below(n int) int {
	*c = *c*6364136223846793005 + 1442695040888963407
	return int(uint64(*c) >> 33 % uint64(n))
}

// attr answers attributes of some of these numbers.
func (c *chance) attr(from []int) api.Attr {
	a := api.Attr{Seq: from[c.below(len(from))]}
	for k := range a.Deps {
		a.Deps[k] = from[c.below(len(from))]
	}
	return a
}

func TestTheLimitsAreApis(t *testing.T) { // the tables are written with these
	if api.MaxNodes != 7 || api.MaxSlot != 1<<30 || api.MaxAttr != 1<<40 {
		t.Fatal("the limits have other numbers")
	}
}

func TestRight(t *testing.T) { // P7.1
	for i, c := range []struct {
		a    api.Attr
		want bool
	}{
		{api.Attr{}, true},
		{attr(3, 2, 5), true},
		{attr(1<<40, 1<<30, 1<<30, 1<<30, 1<<30, 1<<30, 1<<30, 1<<30), true},
		{attr(0, 0, 0, 0, 0, 0, 0, 1<<30), true},
		{attr(1<<40+1, 0), false},
		{attr(-1, 0), false},
		{attr(0, -1), false},
		{attr(0, 0, 0, 0, 0, 0, 0, -1), false},
		{attr(0, 1<<30+1), false},
		{attr(0, 0, 0, 0, 0, 0, 0, 1<<30+1), false},
		{attr(1<<30+1, 0), true},
		{attr(0, 1<<40), false},
		{attr(-1, -1), false},
		{attr(-1<<40, 1), false},
		{attr(1<<62, 1), false},
		{attr(math.MinInt, math.MinInt), false},
		{attr(math.MaxInt, math.MaxInt), false},
	} {
		if got := Right(c.a); got != c.want {
			t.Errorf("%d: Right(%d) = %t", i, c.a, got)
		}
	}
}

func TestRightGoesByEachNumber(t *testing.T) { // P7.1
	for _, others := range []api.Attr{{}, attr(7, 1, 2, 3, 4, 5, 6, 7), {Seq: 1 << 40, Deps: alike(1 << 30)}} {
		for _, n := range numbers() {
			a := others
			a.Seq = n
			if got := Right(a); got != (n >= 0 && n <= 1099511627776) {
				t.Errorf("Right(%d) = %t", a, got)
			}
			for k := range others.Deps {
				a := others
				a.Deps[k] = n
				if got := Right(a); got != (n >= 0 && n <= 1073741824) {
					t.Errorf("Right(%d) = %t", a, got)
				}
			}
		}
	}
}

func TestJoin(t *testing.T) { // P7.2 and the run
	for i, c := range []struct {
		l    []api.Attr
		want api.Attr
	}{
		{[]api.Attr{attr(1, 2, 0), attr(3, 1, 5)}, attr(3, 2, 5)},
		{nil, api.Attr{}},
		{[]api.Attr{}, api.Attr{}},
		{[]api.Attr{{}}, api.Attr{}},
		{[]api.Attr{attr(4, 1, 2, 3, 4, 5, 6, 7)}, attr(4, 1, 2, 3, 4, 5, 6, 7)},
		{[]api.Attr{attr(9), attr(0, 1), attr(0, 0, 1), attr(0, 0, 0, 1), attr(0, 0, 0, 0, 1), attr(0, 0, 0, 0, 0, 1), attr(0, 0, 0, 0, 0, 0, 1), attr(0, 0, 0, 0, 0, 0, 0, 1)}, attr(9, 1, 1, 1, 1, 1, 1, 1)},
		{[]api.Attr{attr(1, 7, 6, 5, 4, 3, 2, 1), attr(2, 1, 2, 3, 4, 5, 6, 7)}, attr(2, 7, 6, 5, 4, 5, 6, 7)},
		// Those that aren't right are joined all the same, and below 0 one of them is the greatest.
		{[]api.Attr{attr(-5, -1, -9)}, attr(-5, -1, -9)},
		{[]api.Attr{{Seq: -5, Deps: alike(-7)}, {Seq: -4, Deps: alike(-8)}}, api.Attr{Seq: -4, Deps: alike(-7)}},
		{[]api.Attr{{Seq: math.MinInt, Deps: alike(math.MinInt)}}, api.Attr{Seq: math.MinInt, Deps: alike(math.MinInt)}},
		{[]api.Attr{{Seq: math.MaxInt, Deps: alike(math.MinInt)}, {Seq: math.MinInt, Deps: alike(math.MaxInt)}}, api.Attr{Seq: math.MaxInt, Deps: alike(math.MaxInt)}},
	} {
		if got := Join(c.l...); got != c.want {
			t.Errorf("%d: Join(%d) = %d", i, c.l, got)
		}
	}
	if got := Join(); got != (api.Attr{}) {
		t.Errorf("Join() = %d", got)
	}
}

// greatest is the greatest of l, as the last one when they rise.
func greatest(l []int) int {
	l = slices.Sorted(slices.Values(l))
	return l[len(l)-1]
}

// joined is what Join must answer of some.
func joined(l []api.Attr) api.Attr {
	seqs, slots := []int{}, [api.MaxNodes][]int{}
	for _, a := range l {
		seqs = append(seqs, a.Seq)
		for k, slot := range a.Deps {
			slots[k] = append(slots[k], slot)
		}
	}
	j := api.Attr{Seq: greatest(seqs)}
	for k := range slots {
		j.Deps[k] = greatest(slots[k])
	}
	return j
}

func TestJoinIsTheGreatest(t *testing.T) { // P7.2, P7.7
	c := chance(1)
	for range 3000 {
		var l []api.Attr
		for range 1 + c.below(5) {
			l = append(l, c.attr(numbers()))
		}
		j := Join(l...)
		if j != joined(l) {
			t.Fatalf("Join(%d) = %d", l, j)
		}
		if Join(j, j) != j || Join(append(slices.Clone(l), j)...) != j || Join(l[0], Join(l...)) != j {
			t.Fatalf("%d: joined again it is another one", l)
		}
		for _, a := range l {
			if !Covers(j.Deps, a.Deps) || j.Seq < a.Seq {
				t.Fatalf("Join(%d) = %d doesn't cover %d", l, j, a)
			}
		}
	}
}

// orders answers l in each order.
func orders(l []api.Attr) [][]api.Attr {
	if len(l) == 0 {
		return [][]api.Attr{nil}
	}
	var all [][]api.Attr
	for k, a := range l {
		for _, o := range orders(slices.Delete(slices.Clone(l), k, k+1)) {
			all = append(all, append(o, a))
		}
	}
	return all
}

func TestJoinIsTheSameInEachOrder(t *testing.T) { // P7.7
	for _, l := range [][]api.Attr{
		{attr(1, 5, 0, 3), attr(5, 1, 1, 1), attr(2, 0, 9, 0), attr(3, 4, 4, 4), attr(0, 0, 0, 0, 0, 0, 0, 8)},
		{attr(-1, -2, -3), attr(-4, -1, -5), attr(-9, -9, -1), attr(-2, 0, -7), attr(-1, -2, -3)},
	} {
		all := orders(l)
		if len(all) != 120 {
			t.Fatalf("%d orders", len(all))
		}
		for _, o := range all {
			if Join(o...) != Join(l...) || Join(Join(o[:2]...), Join(o[2:]...)) != Join(l...) {
				t.Fatalf("Join(%d) = %d, not %d", o, Join(o...), Join(l...))
			}
		}
	}
}

func TestReach(t *testing.T) { // P7.3 and the runs
	for i, c := range []struct {
		d    api.Deps
		i    api.Inst
		want bool
	}{
		{row(0, 4), api.Inst{Replica: 1, Slot: 4}, true},
		{row(0, 4), api.Inst{Replica: 1, Slot: 5}, false},
		{row(0, 4), api.Inst{Replica: 1, Slot: 1}, true},
		{row(0, 4), api.Inst{Replica: 0, Slot: 1}, false},
		{row(0, 4), api.Inst{Replica: 2, Slot: 4}, false},
		{row(0, 4), api.Inst{Replica: 1, Slot: 0}, false},
		{row(0, 4), api.Inst{Replica: 1, Slot: -1}, false},
		{row(), api.Inst{}, false},
		{row(), api.Inst{Slot: 1}, false},
		{row(0, 0, 0, 0, 0, 0, 3), api.Inst{Replica: 6, Slot: 3}, true},
		{alike(9), api.Inst{Replica: 7, Slot: 3}, false},
		{alike(9), api.Inst{Replica: -1, Slot: 3}, false},
		{alike(9), api.Inst{Replica: 1 << 32, Slot: 3}, false},
		{alike(1 << 30), api.Inst{Replica: 3, Slot: 1 << 30}, true},
		{alike(math.MaxInt), api.Inst{Replica: 3, Slot: 1 << 30}, true},
		{alike(math.MaxInt), api.Inst{Replica: 3, Slot: 1<<30 + 1}, false},
		{alike(math.MaxInt), api.Inst{Replica: math.MinInt, Slot: math.MinInt}, false},
		{alike(math.MaxInt), api.Inst{Replica: math.MaxInt, Slot: math.MaxInt}, false},
		{alike(math.MinInt), api.Inst{Replica: 3, Slot: 1}, false},
		{alike(-1), api.Inst{Replica: 3, Slot: -1}, false},
	} {
		if got := Reach(c.d, c.i); got != c.want {
			t.Errorf("%d: Reach(%d, %d) = %t", i, c.d, c.i, got)
		}
	}
}

func TestReachGoesByItsRowAlone(t *testing.T) { // P7.3
	for replica := -2; replica < 9; replica++ {
		for _, slot := range numbers() {
			for _, mine := range numbers() {
				for _, others := range []int{math.MinInt, 0, math.MaxInt} {
					d := alike(others)
					if replica >= 0 && replica < 7 {
						d[replica] = mine
					}
					i := api.Inst{Replica: replica, Slot: slot}
					want := replica >= 0 && replica <= 6 && slot > 0 && slot <= 1073741824 && !(mine < slot)
					if got := Reach(d, i); got != want {
						t.Fatalf("Reach(%d, %d) = %t", d, i, got)
					}
				}
			}
		}
	}
}

func TestCovers(t *testing.T) { // P7.3
	for i, c := range []struct {
		a, b api.Deps
		want bool
	}{
		{row(), row(), true},
		{row(1), row(), true},
		{row(), row(1), false},
		{row(2, 5), row(2, 5), true},
		{row(2, 5), row(2, 4), true},
		{row(2, 5), row(2, 6), false},
		{row(2, 5), row(3, 0), false},
		{row(9, 9, 9, 9, 9, 9, 0), alike(0), true},
		{row(9, 9, 9, 9, 9, 9, 0), row(0, 0, 0, 0, 0, 0, 1), false},
		{row(), alike(-1), true},
		{alike(-1), row(), false},
		{alike(-2), alike(-3), true},
		{alike(math.MaxInt), alike(math.MinInt), true},
		{alike(math.MinInt), alike(math.MaxInt), false},
	} {
		if got := Covers(c.a, c.b); got != c.want {
			t.Errorf("%d: Covers(%d, %d) = %t", i, c.a, c.b, got)
		}
	}
}

func TestCoversGoesByEachSlot(t *testing.T) { // P7.3
	for k := range api.MaxNodes {
		for p, mine := range numbers() {
			for q, other := range numbers() {
				for _, rest := range [][2]int{{0, 0}, {math.MaxInt, math.MinInt}, {3, 2}} {
					a, b := alike(rest[0]), alike(rest[1])
					a[k], b[k] = mine, other
					if got := Covers(a, b); got != (p >= q) {
						t.Fatalf("Covers(%d, %d) = %t", a, b, got)
					}
				}
			}
		}
	}
}

func TestMost(t *testing.T) { // P7.4 and the run
	a, b, c := attr(1), attr(2, 1), attr(2, 2)
	for i, o := range []struct {
		l    []api.Attr
		want api.Attr
		n    int
	}{
		{[]api.Attr{a, b, b}, b, 2},
		{nil, api.Attr{}, 0},
		{[]api.Attr{}, api.Attr{}, 0},
		{[]api.Attr{{}}, api.Attr{}, 1},
		{[]api.Attr{{}, {}, a}, api.Attr{}, 2},
		{[]api.Attr{a}, a, 1},
		{[]api.Attr{a, b, c}, a, 1},
		{[]api.Attr{c, b, a}, c, 1},
		{[]api.Attr{a, b, b, a}, a, 2},
		{[]api.Attr{b, a, a, b}, b, 2},
		{[]api.Attr{a, b, b, c, c}, b, 2},
		{[]api.Attr{a, c, b, b, c}, c, 2},
		{[]api.Attr{a, b, b, c, c, c}, c, 3},
		{[]api.Attr{a, a, a}, a, 3},
		{[]api.Attr{a, b, a, b, b, a}, a, 3},
		{[]api.Attr{attr(-1, -1), a, attr(-1, -1)}, attr(-1, -1), 2},
		{[]api.Attr{attr(1, 1), attr(2, 1), attr(1, 2), attr(2, 1)}, attr(2, 1), 2},
		{[]api.Attr{{Seq: math.MaxInt, Deps: alike(math.MinInt)}, a, a}, a, 2},
	} {
		if got, n := Most(o.l...); got != o.want || n != o.n {
			t.Errorf("%d: Most(%d) = %d, %d", i, o.l, got, n)
		}
	}
	if got, n := Most(); got != (api.Attr{}) || n != 0 {
		t.Errorf("Most() = %d, %d", got, n)
	}
}

func TestMostTellsAttributesApartByEachNumber(t *testing.T) { // P7.4
	base := attr(1, 2, 3, 4, 5, 6, 7, 8)
	others := []api.Attr{base}
	others[0].Seq = 9
	for k := range base.Deps {
		o := base
		o.Deps[k] += 1 << 32 // beyond what a narrower number tells apart
		others = append(others, o)
	}
	for _, o := range others {
		if got, n := Most(base, o); got != base || n != 1 {
			t.Errorf("Most(%d, %d) = %d, %d", base, o, got, n)
		}
		if got, n := Most(base, o, o); got != o || n != 2 {
			t.Errorf("Most(%d, %d, %d) = %d, %d", base, o, o, got, n)
		}
	}
}

// oftenest is what Most must answer: by counting each one's likes.
func oftenest(l []api.Attr) (api.Attr, int) {
	best, at := 0, -1
	for k := len(l) - 1; k >= 0; k-- {
		n := 0
		for _, a := range l {
			if a == l[k] {
				n++
			}
		}
		if n >= best {
			best, at = n, k
		}
	}
	if at < 0 {
		return api.Attr{}, 0
	}
	return l[at], best
}

func TestMostGoesByTheListNotByTheMap(t *testing.T) { // P7.4, R4
	c := chance(2)
	some := []api.Attr{{}, attr(1), attr(1, 1), attr(1, 0, 1), attr(-1), attr(math.MaxInt, 1), attr(2, 1<<30), attr(3)}
	for range 20000 {
		var l []api.Attr
		for range c.below(12) {
			l = append(l, some[c.below(len(some))])
		}
		got, n := Most(l...)
		if want, times := oftenest(l); got != want || n != times {
			t.Fatalf("Most(%d) = %d, %d", l, got, n)
		}
	}
}

func TestMostOfMany(t *testing.T) { // P7.4
	var l []api.Attr
	for k := range 3000 {
		l = append(l, attr(k, k%7, k))
	}
	for range 50 {
		if got, n := Most(l...); got != l[0] || n != 1 {
			t.Fatalf("Most of many = %d, %d", got, n)
		}
	}
	l = append(l, l[2999])
	if got, n := Most(l...); got != l[2999] || n != 2 {
		t.Fatalf("Most of many = %d, %d", got, n)
	}
}

// slots are the instances of a replica's row from a slot to another one.
func slots(replica, first, last int) []api.Inst {
	var l []api.Inst
	for slot := first; slot <= last; slot++ {
		l = append(l, api.Inst{Replica: replica, Slot: slot})
	}
	return l
}

func TestList(t *testing.T) { // P7.5 and the run
	const slotMost = 1 << 30
	for i, c := range []struct {
		d, from api.Deps
		want    []api.Inst
	}{
		{row(1, 2), row(0, 1), []api.Inst{{Replica: 0, Slot: 1}, {Replica: 1, Slot: 2}}},
		{row(), row(), nil},
		{row(3), row(), slots(0, 1, 3)},
		{row(3), row(3), nil},
		{row(3), row(4), nil},
		{row(3), row(2), slots(0, 3, 3)},
		{row(3), row(-1), slots(0, 1, 3)},
		{row(3), row(-5), slots(0, 1, 3)},
		{row(1), alike(math.MinInt), slots(0, 1, 1)},
		{alike(-1), row(), nil},
		{alike(-1), alike(-9), nil},
		{row(), alike(-9), nil},
		{alike(math.MinInt), alike(math.MaxInt), nil},
		{alike(math.MinInt), alike(math.MinInt), nil},
		{row(0, 0, 0, 0, 0, 0, 2), row(9, 9, 9), slots(6, 1, 2)},
		{row(2, 1, -4, 0, 3, 5, 2), row(1, 1, -9, 0, 1, 7, 0), slices.Concat(slots(0, 2, 2), slots(4, 2, 3), slots(6, 1, 2))},
		{row(0, slotMost), row(0, slotMost-2), slots(1, slotMost-1, slotMost)},
		// Slots that no instance may have are told by the words all the same.
		{row(slotMost + 2), row(slotMost), slots(0, slotMost+1, slotMost+2)},
		{row(math.MaxInt), row(math.MaxInt - 2), []api.Inst{{Slot: math.MaxInt - 1}, {Slot: math.MaxInt}}},
		{alike(math.MaxInt), alike(math.MaxInt), nil},
		{row(math.MaxInt, 2), row(math.MaxInt-1, 0), []api.Inst{{Slot: math.MaxInt}, {Replica: 1, Slot: 1}, {Replica: 1, Slot: 2}}},
	} {
		if got := List(c.d, c.from); !slices.Equal(got, c.want) {
			t.Errorf("%d: List(%d, %d) = %d", i, c.d, c.from, got)
		}
	}
}

func TestListTellsAThousand(t *testing.T) { // P7.5
	for i, c := range []struct {
		d, from api.Deps
		want    []api.Inst
	}{
		{row(999), row(), slots(0, 1, 999)},
		{row(1000), row(), slots(0, 1, 1000)},
		{row(1001), row(), slots(0, 1, 1000)},
		{row(2000), row(1000), slots(0, 1001, 2000)},
		{row(2001), row(1000), slots(0, 1001, 2000)},
		{row(1000, 1, 1), row(), slots(0, 1, 1000)},
		{row(999, 5), row(), slices.Concat(slots(0, 1, 999), slots(1, 1, 1))},
		{row(0, 400, 0, 600, 3), row(), slices.Concat(slots(1, 1, 400), slots(3, 1, 600))},
		{alike(150), row(), slices.Concat(slots(0, 1, 150), slots(1, 1, 150), slots(2, 1, 150), slots(3, 1, 150), slots(4, 1, 150), slots(5, 1, 150), slots(6, 1, 100))},
		{alike(1 << 30), row(), slots(0, 1, 1000)},
		{alike(math.MaxInt), row(), slots(0, 1, 1000)},
		{alike(math.MaxInt), alike(math.MinInt), slots(0, 1, 1000)},
		{row(7, math.MaxInt), row(5, 1<<40), slices.Concat(slots(0, 6, 7), slots(1, 1<<40+1, 1<<40+998))},
		{alike(math.MaxInt), row(math.MaxInt, math.MaxInt, math.MaxInt, math.MaxInt, math.MaxInt, math.MaxInt, -3), slots(6, 1, 1000)},
	} {
		if got := List(c.d, c.from); !slices.Equal(got, c.want) {
			t.Errorf("%d: List(%d, %d): %d instances", i, c.d, c.from, len(got))
		}
	}
}

func TestListTellsWhatStandsBetween(t *testing.T) { // P7.5
	c := chance(3)
	small := []int{-3, -1, 0, 1, 2, 3, 4, 7, 11}
	for range 3000 {
		d, from := c.attr(small).Deps, c.attr(small).Deps
		var want []api.Inst
		for replica := range 7 {
			for slot := 1; slot <= 20; slot++ {
				if slot > from[replica] && slot <= d[replica] {
					want = append(want, api.Inst{Replica: replica, Slot: slot})
				}
			}
		}
		if got := List(d, from); !slices.Equal(got, want) {
			t.Fatalf("List(%d, %d) = %d", d, from, got)
		}
	}
}

func TestWhatIsReachedIsTold(t *testing.T) { // P7.7
	c := chance(4)
	small := []int{math.MinInt, -1, 0, 0, 1, 2, 5, 9, 40, 140}
	for range 500 {
		d := c.attr(small).Deps
		told := List(d, api.Deps{})
		reached := 0
		for replica := -1; replica < 8; replica++ {
			for slot := -2; slot < 150; slot++ {
				i := api.Inst{Replica: replica, Slot: slot}
				if Reach(d, i) != slices.Contains(told, i) {
					t.Fatalf("Reach(%d, %d) = %t, but it's told otherwise", d, i, Reach(d, i))
				}
				if Reach(d, i) {
					reached++
				}
			}
		}
		if reached != len(told) {
			t.Fatalf("%d: %d are reached, %d told", d, reached, len(told))
		}
	}
}

func TestListIsNewMemory(t *testing.T) { // R2
	one, other := List(row(3, 2), row()), List(row(3, 2), row())
	for k := range one[:cap(one)] {
		one[:cap(one)][k] = api.Inst{Replica: 6, Slot: 6}
	}
	want := slices.Concat(slots(0, 1, 3), slots(1, 1, 2))
	if !slices.Equal(other, want) || !slices.Equal(List(row(3, 2), row()), want) {
		t.Errorf("an answer is %d now", other)
	}
}

func TestWhatIsHandedInIsNotChanged(t *testing.T) { // R2, R5
	room := []api.Attr{attr(1, 5), attr(2, 1, 9), attr(2, 1, 9), attr(7, 7, 7, 7), attr(7, 7, 7, 7), attr(7, 7, 7, 7)}
	before := slices.Clone(room)
	if got := Join(room[:3]...); got != attr(2, 5, 9) {
		t.Errorf("Join = %d: what stands behind the list counts", got)
	}
	if got, n := Most(room[:3]...); got != attr(2, 1, 9) || n != 2 {
		t.Errorf("Most = %d, %d: what stands behind the list counts", got, n)
	}
	if !slices.Equal(room, before) {
		t.Errorf("what was handed in is %d now", room)
	}
}

// A written is attributes that are right, and their bytes.
type written struct {
	a api.Attr
	b string
}

func writtens() []written {
	slot := "\x80\x80\x80\x80\x08" // 2^30
	return []written{
		{api.Attr{}, "\x00\x00\x00\x00\x00\x00\x00\x00"},
		{attr(1, 2, 3, 4, 5, 6, 7, 8), "\x02\x04\x06\x08\x0a\x0c\x0e\x10"},
		{attr(3, 2, 5), "\x06\x04\x0a\x00\x00\x00\x00\x00"},
		{attr(0, 0, 0, 0, 0, 0, 0, 1), "\x00\x00\x00\x00\x00\x00\x00\x02"},
		{attr(64, 63, 64), "\x80\x01\x7e\x80\x01\x00\x00\x00\x00\x00"},
		{api.Attr{Seq: 1 << 40, Deps: alike(1 << 30)}, "\x80\x80\x80\x80\x80\x40" + strings.Repeat(slot, 7)},
		{attr(1<<30+1, 0, 1<<30), "\x82\x80\x80\x80\x08\x00" + slot + "\x00\x00\x00\x00\x00"},
	}
}

// wrongs are attributes that aren't right, and their bytes.
func wrongs() []written {
	return []written{
		{attr(-1), "\x01\x00\x00\x00\x00\x00\x00\x00"},
		{attr(0, -1), "\x00\x01\x00\x00\x00\x00\x00\x00"},
		{attr(1, 2, 3, 4, 5, 6, 7, -64), "\x02\x04\x06\x08\x0a\x0c\x0e\x7f"},
		{attr(1<<40 + 1), "\x82\x80\x80\x80\x80\x40\x00\x00\x00\x00\x00\x00\x00"},
		{attr(0, 1<<30+1), "\x00\x82\x80\x80\x80\x08\x00\x00\x00\x00\x00\x00"},
		{attr(0, 0, 0, 0, 0, 0, 0, 1<<30+1), "\x00\x00\x00\x00\x00\x00\x00\x82\x80\x80\x80\x08"},
		{attr(math.MinInt, math.MaxInt), "\xff\xff\xff\xff\xff\xff\xff\xff\xff\x01\xfe\xff\xff\xff\xff\xff\xff\xff\xff\x01\x00\x00\x00\x00\x00\x00"},
	}
}

func TestPut(t *testing.T) { // P7.6
	for _, w := range append(writtens(), wrongs()...) { // those that aren't right are written, too
		for _, ahead := range []string{"", "\x00", "\x80\xff", strings.Repeat("z", 1<<16)} {
			if got := Put([]byte(ahead), w.a); string(got) != ahead+w.b {
				t.Errorf("Put(%.10q, %d) = %.60x", ahead, w.a, got)
			}
		}
		if got := Put(nil, w.a); string(got) != w.b {
			t.Errorf("Put(nil, %d) = %x", w.a, got)
		}
	}
}

func TestPutWritesEachNumber(t *testing.T) { // P7.6
	c := chance(5)
	for range 1000 {
		a := c.attr(numbers())
		want := pack.Num(nil, a.Seq)
		for k := range 7 {
			want = pack.Num(want, a.Deps[k])
		}
		if got := Put(nil, a); !bytes.Equal(got, want) {
			t.Fatalf("Put(nil, %d) = %x", a, got)
		}
	}
}

func TestPutAnswersNewMemory(t *testing.T) { // P7.6, R2, R5
	room := bytes.Repeat([]byte{7}, 1000)
	for _, n := range []int{0, 2} {
		one, other := Put(room[:n], attr(1, 2)), Put(room[:n], attr(1, 2))
		want := string(one)
		whole := one[:cap(one)]
		for k := range whole {
			whole[k] = 9
		}
		if string(other) != want {
			t.Errorf("%d ahead: one is changed with another one", n)
		}
		if !bytes.Equal(room, bytes.Repeat([]byte{7}, 1000)) {
			t.Errorf("%d ahead: what was handed in is changed", n)
		}
	}
}

func TestGetOfPut(t *testing.T) { // P7.6
	for _, w := range writtens() {
		for _, behind := range []string{"", "\x00", "\x80", "\xff\xff", w.b} {
			r := pack.Read([]byte("\x01" + w.b + behind))
			r.Flag()
			if got := Get(r); got != w.a || r.Wrong() != api.OK || r.At() != 1+len(w.b) {
				t.Errorf("Get of %x, %x behind: %d, %d at %d", w.b, behind, got, r.Wrong(), r.At()-1)
			}
		}
	}
}

func TestOneBehindTheOther(t *testing.T) { // P7.6
	var b []byte
	for _, w := range writtens() {
		b = Put(b, w.a)
	}
	r := pack.Read(b)
	for i, w := range writtens() {
		if got := Get(r); got != w.a {
			t.Errorf("%d: %d, not %d", i, got, w.a)
		}
	}
	if r.End() != api.OK {
		t.Errorf("the end: %d", r.Wrong())
	}
}

// refused asks Get of the bytes, one ahead of them, and looks that it answers zero, that why is the reader's, now and for good, and that it stays at that place.
func refused(t *testing.T, b string, why api.Errno, at int) {
	t.Helper()
	r := pack.Read([]byte("\x00" + b))
	r.Flag()
	for range 2 {
		if got := Get(r); got != (api.Attr{}) || r.Wrong() != why || r.At() != 1+at {
			t.Errorf("Get of %x: %d, %d at %d", b, got, r.Wrong(), r.At()-1)
		}
	}
}

func TestGetOfWhatIsNotRight(t *testing.T) { // P7.6
	for _, w := range wrongs() {
		for _, behind := range []string{"", "\x00", "\xff", w.b} {
			refused(t, w.b+behind, api.ErrForm, len(w.b))
		}
	}
	for _, n := range []int{-1, -64, 1<<30 + 1, 1 << 40, math.MinInt, math.MaxInt} {
		for k := range api.MaxNodes {
			d := row(1, 2, 3, 4, 5, 6, 7)
			d[k] = n
			b := Put(nil, api.Attr{Seq: 1, Deps: d})
			refused(t, string(b), api.ErrForm, len(b))
		}
	}
}

func TestGetOfOnesCutOff(t *testing.T) { // P7.6
	for _, w := range append(writtens(), wrongs()...) {
		for cut := range w.b {
			at := cut
			for at > 0 && w.b[at-1] >= 128 {
				at-- // it stays ahead of a number that isn't whole
			}
			refused(t, w.b[:cut], api.ErrShort, at)
		}
	}
}

func TestGetOfWhatIsNoNumber(t *testing.T) { // P7.6
	for ahead := range 1 + api.MaxNodes {
		for _, no := range []string{"\x80\x00", "\xff\x80\x00", "\xff\xff\xff\xff\xff\xff\xff\xff\xff\x02"} {
			refused(t, strings.Repeat("\x02", ahead)+no+strings.Repeat("\x02", 8), api.ErrForm, ahead)
		}
	}
}

func TestAnErrorAheadStays(t *testing.T) { // P7.6
	for _, why := range []api.Errno{api.ErrForm, api.ErrLong, api.ErrTail} {
		for _, w := range append(writtens(), wrongs()...) {
			r := pack.Read([]byte("\x02" + w.b))
			switch why {
			case api.ErrForm:
				r.Fail()
			case api.ErrLong:
				r.Count(0)
			case api.ErrTail:
				r.End()
			}
			if got := Get(r); got != (api.Attr{}) || r.Wrong() != why || r.At() != 0 {
				t.Errorf("behind %d: %d, %d at %d", why, got, r.Wrong(), r.At())
			}
		}
	}
}

func TestGetOfNoReader(t *testing.T) { // R1
	if got := Get(nil); got != (api.Attr{}) {
		t.Errorf("of none: %d", got)
	}
	var r pack.Reader
	if got := Get(&r); got != (api.Attr{}) || r.Wrong() != api.ErrShort {
		t.Errorf("of one without bytes: %d, %d", got, r.Wrong())
	}
}

// isRight is what Right must answer, by the numbers of the document.
func isRight(a api.Attr) bool {
	return a.Seq >= 0 && a.Seq <= 1099511627776 && slices.Min(a.Deps[:]) >= 0 && slices.Max(a.Deps[:]) <= 1073741824
}

// oneForm reads attributes, looks that what is taken is right and written so, and tells whether they were.
func oneForm(t *testing.T, b []byte) bool {
	t.Helper()
	r := pack.Read(b)
	a := Get(r)
	if r.Wrong() != api.OK {
		if a != (api.Attr{}) {
			t.Fatalf("%x: %d beside %d", b, a, r.Wrong())
		}
		return false
	}
	if !isRight(a) || !bytes.Equal(Put(nil, a), b[:r.At()]) {
		t.Fatalf("%x is taken as %d", b, a)
	}
	return true
}

func TestWhatIsTakenIsWrittenSo(t *testing.T) { // P7.6
	for _, w := range writtens() {
		for i := range w.b {
			for x := range 256 {
				b := []byte(w.b)
				b[i] = byte(x)
				oneForm(t, b)
			}
		}
	}
	c := chance(6)
	edges := []byte{0, 1, 2, 4, 6, 8, 0x10, 0x40, 0x7e, 0x7f, 0x80, 0x80, 0x82, 0xff}
	whole := 0
	for range 100000 {
		b := make([]byte, 16)
		for i := range b {
			b[i] = edges[c.below(len(edges))]
		}
		if oneForm(t, b) {
			whole++
		}
	}
	if whole < 1000 {
		t.Errorf("only %d were taken: this says little", whole)
	}
}
