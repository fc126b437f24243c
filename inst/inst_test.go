package inst

import (
	"math"
	"slices"
	"testing"

	"concord/api"
)

// numbers are rising, and those about each limit, and about where numbers end, among them.
func numbers() []int {
	return []int{
		math.MinInt, math.MinInt + 1, -1 << 32, -1 << 31, -2, -1, 0, 1, 2, 5, 6, 7, 8,
		1<<30 - 1, 1 << 30, 1<<30 + 1, 1<<31 - 1, 1 << 31, 1 << 32, 1<<32 + 1, math.MaxInt - 1, math.MaxInt,
	}
}

// insts are instances, rising by the document's words: by Replica, then by Slot.
func insts() []api.Inst {
	var l []api.Inst
	for _, replica := range numbers() {
		for _, slot := range numbers() {
			l = append(l, api.Inst{Replica: replica, Slot: slot})
		}
	}
	return l
}

// ballots are ballots, rising by the document's words: by Epoch, then by Replica.
func ballots() []api.Ballot {
	var l []api.Ballot
	for _, epoch := range numbers() {
		for _, replica := range numbers() {
			l = append(l, api.Ballot{Epoch: epoch, Replica: replica})
		}
	}
	return l
}

func TestTheNumbersRise(t *testing.T) { // the other tests stand on it
	l := numbers()
	for i, n := range l[1:] {
		if l[i] >= n {
			t.Errorf("%d behind %d", n, l[i])
		}
	}
}

func TestTheLimitsAreApis(t *testing.T) { // the tables are written with these
	if api.MaxNodes != 7 || api.MaxSlot != 1<<30 || api.MaxEpoch != 1<<30 {
		t.Fatal("the limits have other numbers")
	}
}

func TestRight(t *testing.T) { // P6.1
	for _, c := range []struct {
		i    api.Inst
		want bool
	}{
		{api.Inst{Replica: 0, Slot: 1}, true},
		{api.Inst{Replica: 6, Slot: 1}, true},
		{api.Inst{Replica: 3, Slot: 77}, true},
		{api.Inst{Replica: 0, Slot: 1 << 30}, true},
		{api.Inst{Replica: 6, Slot: 1 << 30}, true},
		{api.Inst{}, false},
		{api.Inst{Replica: 0, Slot: 0}, false},
		{api.Inst{Replica: 1, Slot: -1}, false},
		{api.Inst{Replica: -1, Slot: 1}, false},
		{api.Inst{Replica: 7, Slot: 1}, false},
		{api.Inst{Replica: 0, Slot: 1<<30 + 1}, false},
		{api.Inst{Replica: 6, Slot: 1<<30 + 1}, false},
		{api.Inst{Replica: 1 << 32, Slot: 1}, false},
		{api.Inst{Replica: 1, Slot: 1<<32 + 1}, false},
		{api.Inst{Replica: math.MinInt, Slot: math.MinInt}, false},
		{api.Inst{Replica: math.MaxInt, Slot: math.MaxInt}, false},
	} {
		if got := Right(c.i); got != c.want {
			t.Errorf("Right(%d) = %t", c.i, got)
		}
	}
	right := 0
	for _, i := range insts() {
		want := slices.Contains([]int{0, 1, 2, 3, 4, 5, 6}, i.Replica) && !(i.Slot < 1 || i.Slot > 1073741824)
		if got := Right(i); got != want {
			t.Errorf("Right(%d) = %t", i, got)
		}
		if want {
			right++
		}
	}
	if right != 5*8 {
		t.Errorf("%d were right", right)
	}
}

func TestRightBallot(t *testing.T) { // P6.2
	for _, c := range []struct {
		b    api.Ballot
		want bool
	}{
		{api.Ballot{}, true},
		{api.Ballot{Epoch: 0, Replica: 6}, true},
		{api.Ballot{Epoch: 1, Replica: 0}, true},
		{api.Ballot{Epoch: 1 << 30, Replica: 0}, true},
		{api.Ballot{Epoch: 1 << 30, Replica: 6}, true},
		{api.Ballot{Epoch: 1<<30 + 1, Replica: 0}, false},
		{api.Ballot{Epoch: -1, Replica: 0}, false},
		{api.Ballot{Epoch: 0, Replica: -1}, false},
		{api.Ballot{Epoch: 0, Replica: 7}, false},
		{api.Ballot{Epoch: 1 << 32, Replica: 1}, false},
		{api.Ballot{Epoch: 1, Replica: 1 << 32}, false},
		{api.Ballot{Epoch: math.MinInt, Replica: math.MinInt}, false},
		{api.Ballot{Epoch: math.MaxInt, Replica: math.MaxInt}, false},
	} {
		if got := RightBallot(c.b); got != c.want {
			t.Errorf("RightBallot(%d) = %t", c.b, got)
		}
	}
	right := 0
	for _, b := range ballots() {
		want := slices.Contains([]int{0, 1, 2, 3, 4, 5, 6}, b.Replica) && !(b.Epoch < 0 || b.Epoch > 1073741824)
		if got := RightBallot(b); got != want {
			t.Errorf("RightBallot(%d) = %t", b, got)
		}
		if want {
			right++
		}
	}
	if right != 5*9 {
		t.Errorf("%d were right", right)
	}
}

func TestLess(t *testing.T) { // P6.1 and the run
	for _, c := range []struct {
		a, b api.Inst
		want bool
	}{
		{api.Inst{Replica: 0, Slot: 9}, api.Inst{Replica: 1, Slot: 1}, true},
		{api.Inst{Replica: 1, Slot: 1}, api.Inst{Replica: 0, Slot: 9}, false},
		{api.Inst{Replica: 1, Slot: 1}, api.Inst{Replica: 1, Slot: 2}, true},
		{api.Inst{Replica: 1, Slot: 2}, api.Inst{Replica: 1, Slot: 1}, false},
		{api.Inst{Replica: 1, Slot: 2}, api.Inst{Replica: 1, Slot: 2}, false},
		{api.Inst{}, api.Inst{}, false},
		{api.Inst{Replica: -1, Slot: 5}, api.Inst{}, true},
		{api.Inst{Replica: 0, Slot: -5}, api.Inst{}, true},
		{api.Inst{Replica: math.MinInt}, api.Inst{Replica: math.MaxInt}, true},
		{api.Inst{Slot: math.MaxInt}, api.Inst{Slot: math.MinInt}, false},
	} {
		if got := Less(c.a, c.b); got != c.want {
			t.Errorf("Less(%d, %d) = %t", c.a, c.b, got)
		}
	}
}

func TestLessIsAnOrder(t *testing.T) { // P6.1, P6.4
	l := insts()
	for p, a := range l {
		for q, b := range l {
			if got := Less(a, b); got != (p < q) {
				t.Fatalf("Less(%d, %d) = %t", a, b, got)
			}
		}
	}
}

func TestBelow(t *testing.T) { // P6.2 and the run
	for _, c := range []struct {
		a, b api.Ballot
		want bool
	}{
		{api.Ballot{Epoch: 1, Replica: 5}, api.Ballot{Epoch: 2, Replica: 0}, true},
		{api.Ballot{Epoch: 2, Replica: 0}, api.Ballot{Epoch: 1, Replica: 5}, false},
		{api.Ballot{Epoch: 2, Replica: 0}, api.Ballot{Epoch: 2, Replica: 1}, true},
		{api.Ballot{Epoch: 2, Replica: 1}, api.Ballot{Epoch: 2, Replica: 0}, false},
		{api.Ballot{Epoch: 2, Replica: 1}, api.Ballot{Epoch: 2, Replica: 1}, false},
		{api.Ballot{}, api.Ballot{}, false},
		{api.Ballot{}, api.Ballot{Replica: 1}, true},
		{api.Ballot{Epoch: -1, Replica: 6}, api.Ballot{}, true},
		{api.Ballot{Epoch: math.MinInt}, api.Ballot{Epoch: math.MaxInt}, true},
		{api.Ballot{Replica: math.MaxInt}, api.Ballot{Replica: math.MinInt}, false},
	} {
		if got := Below(c.a, c.b); got != c.want {
			t.Errorf("Below(%d, %d) = %t", c.a, c.b, got)
		}
	}
}

func TestBelowIsAnOrder(t *testing.T) { // P6.2, P6.4
	l := ballots()
	for p, a := range l {
		for q, b := range l {
			if got := Below(a, b); got != (p < q) {
				t.Fatalf("Below(%d, %d) = %t", a, b, got)
			}
		}
	}
}

func TestNext(t *testing.T) { // P6.2 and the run
	for _, c := range []struct {
		b       api.Ballot
		replica int
		want    api.Ballot
	}{
		{api.Ballot{Epoch: 3, Replica: 1}, 2, api.Ballot{Epoch: 4, Replica: 2}},
		{api.Ballot{Epoch: 3, Replica: 6}, 0, api.Ballot{Epoch: 4, Replica: 0}},
		{api.Ballot{Epoch: 3, Replica: 2}, 2, api.Ballot{Epoch: 4, Replica: 2}},
		{api.Ballot{}, 0, api.Ballot{Epoch: 1}},
		{api.Ballot{}, 6, api.Ballot{Epoch: 1, Replica: 6}},
		{api.Ballot{Epoch: 1<<30 - 1}, 6, api.Ballot{Epoch: 1 << 30, Replica: 6}},
		{api.Ballot{Epoch: 1 << 30}, 0, api.Ballot{Epoch: 1<<30 + 1}}, // it's told, though it isn't right
		{api.Ballot{Epoch: -1, Replica: -1}, -7, api.Ballot{Epoch: 0, Replica: -7}},
		{api.Ballot{Epoch: 1<<32 - 1}, math.MaxInt, api.Ballot{Epoch: 1 << 32, Replica: math.MaxInt}},
		{api.Ballot{Epoch: math.MinInt, Replica: 4}, math.MinInt, api.Ballot{Epoch: math.MinInt + 1, Replica: math.MinInt}},
	} {
		if got := Next(c.b, c.replica); got != c.want {
			t.Errorf("Next(%d, %d) = %d", c.b, c.replica, got)
		}
	}
	if got := Next(api.Ballot{Epoch: math.MaxInt, Replica: 1}, 2); got.Replica != 2 {
		t.Errorf("behind the last number: %d", got)
	}
}

func TestNextIsAbove(t *testing.T) { // P6.4
	for _, b := range ballots() {
		if b.Epoch == math.MaxInt {
			continue // no number is above
		}
		for _, replica := range numbers() {
			next := Next(b, replica)
			if !Below(b, next) || Below(next, b) {
				t.Fatalf("Next(%d, %d) = %d isn't above", b, replica, next)
			}
			if want := RightBallot(api.Ballot{Replica: replica}); RightBallot(b) && b.Epoch < api.MaxEpoch && RightBallot(next) != want {
				t.Fatalf("Next(%d, %d) = %d is right: %t", b, replica, next, !want)
			}
		}
	}
}

func TestTheRunOfSets(t *testing.T) {
	s := New(api.Inst{Replica: 1, Slot: 2}, api.Inst{Replica: 0, Slot: 3}, api.Inst{Replica: 1, Slot: 2})
	if s.Len() != 2 || !slices.Equal(s.List(), []api.Inst{{Replica: 0, Slot: 3}, {Replica: 1, Slot: 2}}) {
		t.Errorf("%d: %d", s.Len(), s.List())
	}
	if s.Add(api.Inst{Replica: 0, Slot: 3}) || !s.Drop(api.Inst{Replica: 1, Slot: 2}) || s.Has(api.Inst{Replica: 1, Slot: 2}) {
		t.Error("of Add, Drop, Has another one than false, true, false")
	}
	holds(t, s, []api.Inst{{Replica: 0, Slot: 3}})
}

// holds tells of s where it isn't the set of want, which rises, each once.
func holds(t *testing.T, s *Set, want []api.Inst) {
	t.Helper()
	if got := s.List(); !slices.Equal(got, want) {
		t.Fatalf("List() = %d, not %d", got, want)
	}
	if s.Len() != len(want) {
		t.Fatalf("Len() = %d, not %d", s.Len(), len(want))
	}
	for _, i := range want {
		if !s.Has(i) {
			t.Fatalf("Has(%d) = false", i)
		}
	}
}

func TestASetOfNothing(t *testing.T) { // P6.3, R4
	var nothing []api.Inst
	for _, s := range []*Set{New(), New(nothing...), New([]api.Inst{}...), New(make([]api.Inst, 0, 4)...)} {
		holds(t, s, nil)
		if s.Has(api.Inst{}) || s.Drop(api.Inst{}) {
			t.Error("the zero instance is in it")
		}
		if s.Len() != 0 {
			t.Error("Has or Drop put something in")
		}
		if !s.Add(api.Inst{}) || s.Add(api.Inst{}) {
			t.Error("of Add, Add another one than true, false")
		}
		holds(t, s, []api.Inst{{}})
		if !s.Drop(api.Inst{}) || s.Drop(api.Inst{}) {
			t.Error("of Drop, Drop another one than true, false")
		}
		holds(t, s, nil)
		if !s.Add(api.Inst{}) {
			t.Error("what was dropped can't come in again")
		}
	}
}

func TestASetTakesAnyInstance(t *testing.T) { // P6.3
	all := insts()
	s := New()
	for k := range all {
		i := all[(k*101+7)%len(all)] // each once, in another order
		if s.Has(i) || !s.Add(i) || !s.Has(i) || s.Add(i) || s.Len() != k+1 {
			t.Fatalf("%d didn't come in, as the %dth", i, k)
		}
	}
	holds(t, s, all)
	holds(t, New(all...), all)
	for k, i := range all {
		if !s.Has(i) || !s.Drop(i) || s.Has(i) || s.Drop(i) || s.Len() != len(all)-k-1 {
			t.Fatalf("%d didn't leave, as the %dth", i, k)
		}
	}
	holds(t, s, nil)
}

// chance makes numbers that look like chance, the same ones at each run.
type chance uint64

func (c *chance) below(n int) int {
	*c = *c*6364136223846793005 + 1442695040888963407
	return int(uint64(*c) >> 33 % uint64(n))
}

// model is a set as a list that rises: what a Set must be like.
type model []api.Inst

func (m model) place(i api.Inst) (int, bool) {
	for k, o := range m {
		if o == i {
			return k, true
		}
		if o.Replica > i.Replica || o.Replica == i.Replica && o.Slot > i.Slot {
			return k, false
		}
	}
	return len(m), false
}

func (m *model) add(i api.Inst) bool {
	k, had := m.place(i)
	if !had {
		*m = slices.Insert(*m, k, i)
	}
	return !had
}

func (m *model) drop(i api.Inst) bool {
	k, had := m.place(i)
	if had {
		*m = slices.Delete(*m, k, k+1)
	}
	return had
}

func TestASetGoesLikeAList(t *testing.T) { // P6.3
	c := chance(1)
	s, m := New(), model{}
	for step := range 20000 {
		i := api.Inst{Replica: c.below(9) - 1, Slot: c.below(9) - 1}
		switch c.below(3) {
		case 0:
			if got, want := s.Add(i), m.add(i); got != want {
				t.Fatalf("step %d: Add(%d) = %t", step, i, got)
			}
		case 1:
			if got, want := s.Drop(i), m.drop(i); got != want {
				t.Fatalf("step %d: Drop(%d) = %t", step, i, got)
			}
		case 2:
			if _, want := m.place(i); s.Has(i) != want {
				t.Fatalf("step %d: Has(%d) = %t", step, i, !want)
			}
		}
		if step%10 == 0 {
			holds(t, s, m)
		}
		if s.Len() != len(m) {
			t.Fatalf("step %d: Len() = %d, not %d", step, s.Len(), len(m))
		}
	}
}

// orders answers l in each order.
func orders(l []api.Inst) [][]api.Inst {
	if len(l) == 0 {
		return [][]api.Inst{nil}
	}
	var all [][]api.Inst
	for k, i := range l {
		for _, o := range orders(slices.Delete(slices.Clone(l), k, k+1)) {
			all = append(all, append(o, i))
		}
	}
	return all
}

func TestASetIsTheSameInEachOrder(t *testing.T) { // P6.4
	want := []api.Inst{{Replica: -1, Slot: 3}, {Replica: 0, Slot: 2}, {Replica: 0, Slot: 10}, {Replica: 1, Slot: 1}, {Replica: 2, Slot: 2}}
	all := orders(append([]api.Inst{{Replica: 0, Slot: 10}}, want...)) // one of them comes twice
	if len(all) != 720 {
		t.Fatalf("%d orders", len(all))
	}
	for _, l := range all {
		holds(t, New(l...), want)
		s := New(api.Inst{Replica: 9, Slot: 9}) // it comes first and leaves last: nothing is left of it
		for _, i := range l {
			s.Add(i)
		}
		s.Drop(api.Inst{Replica: 9, Slot: 9})
		holds(t, s, want)
	}
}

func TestListGoesByLessNotByTheMap(t *testing.T) { // P6.3, R4
	l := insts()
	s := New(l...)
	for range 50 {
		if got := s.List(); !slices.Equal(got, l) {
			t.Fatal("List doesn't rise")
		}
	}
}

func TestWhatIsHandedInIsNotChangedNorKept(t *testing.T) { // R2
	room := []api.Inst{{Replica: 2, Slot: 2}, {Replica: 1, Slot: 1}, {Replica: 2, Slot: 2}, {Replica: 5, Slot: 5}, {Replica: 4, Slot: 4}}
	before := slices.Clone(room)
	s := New(room[:3]...)
	want := []api.Inst{{Replica: 1, Slot: 1}, {Replica: 2, Slot: 2}}
	holds(t, s, want)
	s.Add(api.Inst{Replica: 0, Slot: 1})
	s.Drop(api.Inst{Replica: 0, Slot: 1})
	if !slices.Equal(room, before) {
		t.Errorf("what was handed in is %d now", room)
	}
	for k := range room {
		room[k] = api.Inst{Replica: 6, Slot: 6}
	}
	holds(t, s, want)
}

func TestListIsNewMemory(t *testing.T) { // P6.3, R2
	s := New(api.Inst{Replica: 1, Slot: 1}, api.Inst{Replica: 0, Slot: 2})
	want := []api.Inst{{Replica: 0, Slot: 2}, {Replica: 1, Slot: 1}}
	one, other := s.List(), s.List()
	for k := range one[:cap(one)] {
		one[:cap(one)][k] = api.Inst{Replica: 6, Slot: 6}
	}
	holds(t, s, want)
	s.Add(api.Inst{Replica: 0, Slot: 1})
	s.Drop(api.Inst{Replica: 1, Slot: 1})
	if !slices.Equal(other, want) {
		t.Errorf("an answer is %d now", other)
	}
	holds(t, s, []api.Inst{{Replica: 0, Slot: 1}, {Replica: 0, Slot: 2}})
}

func TestSetsAreApart(t *testing.T) { // P6.3
	l := []api.Inst{{Replica: 1, Slot: 1}, {Replica: 2, Slot: 2}}
	one, other := New(l...), New(l...)
	one.Add(api.Inst{Replica: 3, Slot: 3})
	one.Drop(api.Inst{Replica: 1, Slot: 1})
	holds(t, other, l)
	holds(t, one, []api.Inst{{Replica: 2, Slot: 2}, {Replica: 3, Slot: 3}})
}
