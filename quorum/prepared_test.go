package quorum

import (
	"math"
	"slices"
	"testing"

	"concord/api"
)

func TestPrepared(t *testing.T) { // P17.3 and the runs
	a, b, c := attrA(), attrB(), attrC()
	v := ballot
	took := func(what, seq int, a api.Attr) come { return come{what, put(seq), a} }
	for i, o := range []struct {
		n, owner int
		l        []Said
		want     come
	}{
		// The runs.
		{3, 0, []Said{unknown(1), unknown(2)}, come{what: Nothing}},
		{3, 0, []Said{same(1, 1, a), other(2, 1, b)}, took(Accept, 1, a)},
		{3, 0, []Said{same(0, 1, a), same(1, 1, a)}, took(Again, 1, a)},

		// 1: fewer than a slow quorum.
		{3, 0, nil, come{}},
		{3, 0, []Said{first(1, api.Committed, 1, a)}, come{}},
		{5, 0, []Said{first(1, api.Committed, 1, a), first(2, api.Committed, 1, a)}, come{}},
		{7, 0, []Said{first(1, api.Accepted, 1, a), same(2, 1, a), same(3, 1, a)}, come{}},
		{7, 0, []Said{unknown(4), unknown(1), unknown(2), unknown(3)}, come{what: Nothing}},

		// 2: the first that is committed, whatever else there is.
		{3, 0, []Said{stands(1, api.Accepted, v(8, 1), 2, b), first(2, api.Committed, 1, a)}, took(Commit, 1, a)},
		{3, 0, []Said{first(0, api.Committed, 1, a), stands(1, api.Committed, v(5, 0), 2, b)}, took(Commit, 1, a)},
		{3, 0, []Said{stands(1, api.Committed, v(5, 0), 2, b), first(0, api.Committed, 1, a)}, took(Commit, 2, b)},
		{5, 4, []Said{same(0, 1, a), same(1, 1, a), first(2, api.Committed, 3, c)}, took(Commit, 3, c)},
		{3, 0, []Said{unknown(1), {2, api.Cell{Status: api.Committed}}}, come{what: Commit}},

		// 3: the one accepted last, the first of these.
		{3, 0, []Said{first(1, api.Accepted, 1, a), unknown(2)}, took(Accept, 1, a)},
		{3, 0, []Said{same(1, 1, a), first(2, api.Accepted, 2, b)}, took(Accept, 2, b)},
		{3, 0, []Said{stands(1, api.Accepted, v(1, 0), 1, a), stands(2, api.Accepted, v(2, 0), 2, b)}, took(Accept, 2, b)},
		{3, 0, []Said{stands(1, api.Accepted, v(2, 0), 1, a), stands(2, api.Accepted, v(1, 6), 2, b)}, took(Accept, 1, a)},
		{3, 0, []Said{stands(1, api.Accepted, v(2, 1), 1, a), stands(2, api.Accepted, v(2, 2), 2, b)}, took(Accept, 2, b)},
		{3, 0, []Said{stands(1, api.Accepted, v(2, 1), 1, a), stands(2, api.Accepted, v(2, 1), 2, b)}, took(Accept, 1, a)},
		{3, 0, []Said{stands(1, api.Accepted, v(1, 1), 1, a), stands(2, api.Preaccepted, v(2, 1), 2, b)}, took(Accept, 1, a)},
		{3, 0, []Said{unknown(1), {2, api.Cell{Status: api.Accepted}}}, come{what: Accept}},

		// 5: so many are as they were proposed, and the owner isn't heard.
		{3, 0, []Said{other(1, 1, b), same(2, 1, a)}, took(Accept, 1, a)},
		{3, 0, []Said{unknown(1), same(2, 1, a)}, took(Accept, 1, a)},
		{3, 1, []Said{unknown(0), same(2, 1, a)}, took(Accept, 1, a)},
		{3, 2, []Said{same(0, 1, a), same(1, 2, b)}, took(Accept, 1, a)}, // the first of them
		{3, 2, []Said{same(0, 2, b), same(1, 1, a)}, took(Accept, 2, b)},
		{3, 0, []Said{stands(1, api.Preaccepted, v(4, 2), 1, b), same(2, 1, a)}, took(Accept, 1, a)},
		{5, 0, []Said{unknown(1), other(2, 1, b), same(3, 1, a)}, took(Again, 1, b)},
		{5, 0, []Said{unknown(1), same(2, 1, a), same(3, 1, a)}, took(Accept, 1, a)},
		{5, 0, []Said{other(1, 1, b), same(2, 1, a), other(3, 1, c), same(4, 1, a)}, took(Accept, 1, a)},
		{5, 0, []Said{same(1, 1, a), same(2, 2, b), other(3, 3, c)}, took(Accept, 1, a)}, // they are counted, whatever their attributes
		{7, 0, []Said{unknown(1), unknown(2), same(3, 1, a), same(4, 1, a)}, took(Again, 1, a)},
		{7, 0, []Said{unknown(1), same(2, 1, a), same(3, 1, a), same(4, 1, a)}, took(Accept, 1, a)},
		{7, 6, []Said{other(1, 2, c), same(2, 1, a), same(3, 1, a), unknown(4), same(5, 1, a)}, took(Accept, 1, a)},

		// The owner is heard, whatever it says, and wherever it stands.
		{3, 0, []Said{unknown(0), same(1, 1, a), same(2, 1, a)}, took(Again, 1, a)},
		{3, 2, []Said{other(1, 1, b), unknown(2), same(0, 1, a)}, took(Again, 1, b)},
		{5, 4, []Said{same(1, 1, a), same(2, 1, a), same(3, 1, a), unknown(4)}, took(Again, 1, a)},
		{5, 4, []Said{same(1, 1, a), same(2, 1, a), same(3, 1, a), {4, api.Cell{Status: 9}}}, took(Again, 1, a)},

		// 6: the one proposed last, the first of these.
		{3, 0, []Said{other(1, 1, a), unknown(2)}, took(Again, 1, a)},
		{3, 0, []Said{other(1, 1, a), other(2, 2, b)}, took(Again, 1, a)},
		{3, 0, []Said{other(1, 2, b), other(2, 1, a)}, took(Again, 2, b)},
		{3, 0, []Said{other(1, 1, a), stands(2, api.Preaccepted, v(0, 1), 2, b)}, took(Again, 2, b)},
		{3, 0, []Said{stands(1, api.Preaccepted, v(1, 0), 2, b), stands(2, api.Preaccepted, v(0, 6), 1, a)}, took(Again, 2, b)},
		{3, 0, []Said{same(0, 1, a), stands(1, api.Preaccepted, v(1, 1), 2, b)}, took(Again, 2, b)},
		{5, 0, []Said{stands(1, api.Preaccepted, v(3, 1), 1, a), unknown(4), stands(2, api.Preaccepted, v(3, 2), 2, b), stands(3, api.Preaccepted, v(3, 2), 3, c)}, took(Again, 2, b)},
		{3, 0, []Said{unknown(1), {2, api.Cell{Status: api.Preaccepted}}}, come{what: Again}},
	} {
		what, x, got := Prepared(o.n, o.owner, o.l)
		if (come{what, x, got}) != o.want {
			t.Errorf("%d: %d, %v, %d", i, what, x, got)
		}
	}
}

// prepared looks whether Prepared answers what the words ask, and tells what that is.
func prepared(t *testing.T, n, owner int, l []Said) int {
	t.Helper()
	want := preparedOf(n, owner, l)
	what, x, got := Prepared(n, owner, l)
	if (come{what, x, got}) != want {
		t.Fatalf("Prepared(%d, %d, %+v) = %d, %v, %d; not %+v", n, owner, l, what, x, got, want)
	}
	return what
}

// cells are of each Status, with ballots about one another, each with a command or attributes of its own; some aren't right.
func cells() []api.Cell {
	var l []api.Cell
	ballots := []api.Ballot{{}, ballot(0, 2), ballot(1, 0), ballot(1, 1), ballot(-1, 5), ballot(1<<32, 0)}
	for status := -1; status <= 4; status++ {
		for _, v := range ballots {
			c := api.Cell{Status: status, Voted: v, Promised: ballot(len(l), 0), Cmd: put(len(l)), Attr: attr(len(l), len(l), 1)}
			l = append(l, c)
			c.Same = true
			c.Cmd, c.Attr = put(1000+len(l)), attrA()
			l = append(l, c)
		}
	}
	return append(l, api.Cell{}, api.Cell{Status: api.Preaccepted}, api.Cell{Status: api.Preaccepted, Same: true}, api.Cell{Status: api.Committed})
}

func TestPreparedOfEachThree(t *testing.T) { // P17.3: each three cells that stand about one another, with the owner and without
	var some []api.Cell
	for k, c := range cells() {
		if c.Status >= 0 && c.Status <= 3 && c.Voted.Epoch >= 0 && c.Voted.Epoch < 2 || k%7 == 0 {
			some = append(some, c)
		}
	}
	for _, x := range some {
		for _, y := range some {
			for _, z := range some {
				l := []Said{{0, x}, {1, y}, {4, z}}
				for _, n := range []int{3, 5, 7} {
					prepared(t, n, 1, l)
					prepared(t, n, 2, l)
				}
			}
		}
	}
}

func TestPreparedOfMany(t *testing.T) { // P17.3: of any n and owner, also of those that don't fit, and of more than n
	c := chance(2)
	all := cells()
	pre := slices.DeleteFunc(cells(), func(x api.Cell) bool { return x.Status > api.Preaccepted })
	var met [5]int
	for range 300000 {
		from := [][]api.Cell{all, pre, pre}[c.below(3)]
		var l []Said
		for range c.below(9) {
			l = append(l, Said{c.below(9) - 1, from[c.below(len(from))]})
		}
		met[prepared(t, c.below(10)-2, c.below(9)-1, l)]++
	}
	for what, n := range met {
		if n < 2000 {
			t.Errorf("%d was met %d times: this says little", what, n)
		}
	}
}

func TestPreparedOfAnyNumbers(t *testing.T) { // R1
	lists := [][]Said{
		nil, {unknown(1)}, {same(1, 1, attrA())}, {other(1, 1, attrA())}, {unknown(1), same(2, 1, attrA())}, {unknown(1), unknown(2), other(3, 1, attrA())},
		{same(math.MinInt, 1, attrA()), same(math.MaxInt, 2, attrB()), same(-1, 3, attrC())},
		{stands(1, 1, ballot(math.MinInt, math.MaxInt), 1, attrA()), stands(2, 1, ballot(math.MaxInt, math.MinInt), 2, alike(-1, -1))},
		{stands(1, 2, ballot(math.MinInt, math.MinInt), 1, attrA()), stands(2, 2, ballot(math.MinInt, math.MinInt+1), 2, alike(-1, -1))},
		{stands(1, 2, ballot(-1, 0), 1, attrA()), unknown(1)}, // below the zero ballot it is the greatest all the same
		{stands(1, 1, ballot(-1, 0), 1, attrA()), unknown(1)},
		{stands(1, math.MinInt, api.Ballot{}, 1, attrA()), stands(2, math.MaxInt, api.Ballot{}, 1, attrA()), stands(3, 4, api.Ballot{}, 1, attrA())},
	}
	for _, n := range edges() {
		for _, owner := range edges() {
			for _, l := range lists {
				prepared(t, n, owner, l)
			}
		}
	}
}

func TestWhatIsNoProposalIsNotCounted(t *testing.T) { // P17.3: Same counts of a Preaccepted alone
	for _, status := range []int{-1, api.Unknown, 4, math.MaxInt} {
		no := same(1, 2, attrC())
		no.Cell.Status = status
		if what, x, a := Prepared(3, 0, []Said{no, other(2, 1, attrB())}); what != Again || x != put(1) || a != attrB() {
			t.Errorf("%d: %d, %v, %d", status, what, x, a)
		}
		if what, x, a := Prepared(3, 0, []Said{no, same(2, 1, attrA())}); what != Accept || x != put(1) || a != attrA() {
			t.Errorf("%d: %d, %v, %d", status, what, x, a)
		}
		if what, x, a := Prepared(3, 0, []Said{no, no}); what != Nothing || x != (api.Command{}) || a != (api.Attr{}) {
			t.Errorf("%d: %d, %v, %d", status, what, x, a)
		}
		if what, x, a := Prepared(5, 0, []Said{no, same(2, 1, attrA()), other(3, 2, attrB())}); what != Again || x != put(1) || a != attrA() {
			t.Errorf("%d: %d, %v, %d", status, what, x, a)
		}
	}
}

func TestTheBallotIsVotedNotPromised(t *testing.T) { // P17.3
	for _, status := range []int{api.Accepted, api.Preaccepted} {
		old := Said{1, api.Cell{Status: status, Promised: ballot(9, 6), Voted: ballot(1, 1), Cmd: put(1), Attr: attrA()}}
		late := Said{2, api.Cell{Status: status, Promised: ballot(2, 0), Voted: ballot(2, 0), Cmd: put(2), Attr: attrB()}}
		for _, l := range orders([]Said{old, late, unknown(0)}) {
			if _, x, a := Prepared(3, 0, l); x != put(2) || a != attrB() {
				t.Errorf("%+v: %v, %d", l, x, a)
			}
		}
	}
}

func TestTheWholeCommandIsAnswered(t *testing.T) { // P17.3: whatever stands in it
	x := api.Command{Kind: 77, Client: -1, Seq: math.MaxInt, Key: "k\xff", End: "e", Old: "o", Value: "v"}
	a := attr(math.MinInt, 1, -2, math.MaxInt, 4, 5, 6, 7)
	for _, status := range []int{api.Preaccepted, api.Accepted, api.Committed} {
		for _, alike := range []bool{false, true} {
			s := Said{1, api.Cell{Status: status, Cmd: x, Attr: a, Same: alike}}
			if _, got, attrs := Prepared(3, 0, []Said{unknown(2), s}); got != x || attrs != a {
				t.Errorf("%d: %v, %d", status, got, attrs)
			}
		}
	}
}

func TestPreparedOfNone(t *testing.T) { // P17.3, R4: only of a cluster that can't be are none enough
	for _, n := range edges() {
		want := Wait
		if n <= -2 {
			want = Nothing
		}
		for _, l := range [][]Said{nil, {}, []Said{same(1, 1, attrA())}[:0]} {
			if what, x, a := Prepared(n, 0, l); what != want || x != (api.Command{}) || a != (api.Attr{}) {
				t.Errorf("%d: %d, %v, %d", n, what, x, a)
			}
		}
	}
}

func TestNoneIsTheSameOfNoCluster(t *testing.T) { // P17.3: where n / 2 is nought, there is no first cell of none
	for _, n := range []int{1, 0, -1, -2, -9} {
		if what, x, a := Prepared(n, 0, []Said{other(1, 1, attrB())}); what != Again || x != put(1) || a != attrB() {
			t.Errorf("%d: %d, %v, %d", n, what, x, a)
		}
		if what, x, a := Prepared(n, 0, []Said{other(2, 1, attrB()), same(1, 2, attrA())}); what != Accept || x != put(2) || a != attrA() {
			t.Errorf("%d: %d, %v, %d", n, what, x, a)
		}
	}
}

func TestPreparedChangesNothing(t *testing.T) { // R2, R5
	room := []Said{other(1, 1, attrB()), stands(2, api.Preaccepted, ballot(1, 1), 2, attrC()), unknown(3), same(4, 1, attrA()), first(5, api.Accepted, 4, attrA()), first(0, api.Committed, 5, attrA())}
	before := slices.Clone(room)
	for count := range len(room) + 1 {
		for _, n := range []int{3, 5, 7} {
			prepared(t, n, 0, room[:count])
			prepared(t, n, 6, room[:count])
		}
	}
	if what, x, a := Prepared(3, 0, room[:3]); what != Again || x != put(2) || a != attrC() {
		t.Errorf("%d, %v, %d: what stands behind the list counts", what, x, a)
	}
	if !slices.Equal(room, before) {
		t.Errorf("what was handed in is %+v now", room)
	}
}
