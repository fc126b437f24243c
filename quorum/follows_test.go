package quorum

import (
	"slices"
	"testing"

	"concord/api"
)

// shared is how many are in both lists.
func shared(a, b []int) int {
	n := 0
	for _, x := range a {
		if slices.Contains(b, x) {
			n++
		}
	}
	return n
}

func TestQuorumsMeet(t *testing.T) { // P17.4
	for _, n := range []int{3, 5, 7} {
		slow, fast := choose(everyone(n), Slow(n)), choose(everyone(n), Fast(n))
		if len(slow) != []int{3, 10, 35}[n/2-1] || len(fast) != n {
			t.Fatalf("%d: %d slow ones, %d fast ones", n, len(slow), len(fast))
		}
		for _, a := range slow {
			for _, b := range slow {
				if shared(a, b) < 1 {
					t.Errorf("%d: %d and %d don't meet", n, a, b)
				}
			}
			for _, b := range fast {
				if shared(a, b) < Slow(n)-1 {
					t.Errorf("%d: %d and %d meet in %d", n, a, b, shared(a, b))
				}
			}
		}
		// Less than half, or one less than a fast one, wouldn't do.
		if half := choose(everyone(n), Slow(n)-1); shared(half[0], half[len(half)-1]) != 0 {
			t.Errorf("%d: a lesser slow quorum would do", n)
		}
	}
}

// strangers are what the one that a fast quorum leaves out may have, so that it doesn't matter.
func strangers(replica int) []Said {
	heard := first(replica, api.Unknown, 0, api.Attr{})
	heard.Cell = api.Cell{Promised: ballot(3, replica)}
	return []Said{
		unknown(replica), heard, same(replica, 1, attrA()),
		other(replica, 1, attrA()), other(replica, 1, attrB()), other(replica, 7, attrC()), {replica, api.Cell{Status: api.Preaccepted}},
		stands(replica, api.Preaccepted, ballot(1, 1), 1, attrB()), stands(replica, api.Preaccepted, ballot(8, 6), 7, attrC()), stands(replica, api.Preaccepted, ballot(8, 6), 1, attrA()),
	}
}

// recovers looks whether what is said by these, in each order, comes to put(1) and attrA.
func recovers(t *testing.T, n, owner int, l []Said) {
	t.Helper()
	for _, o := range orders(l) {
		if what, x, a := Prepared(n, owner, o); what != Accept || x != put(1) || a != attrA() {
			t.Fatalf("Prepared(%d, %d, %+v) = %d, %v, %d", n, owner, o, what, x, a)
		}
	}
}

func TestWhatAFastQuorumCommittedIsFound(t *testing.T) { // P17.4
	for _, n := range []int{3, 5, 7} {
		for owner := range n {
			for _, out := range others(n, owner) {
				for _, slow := range choose(others(n, owner), Slow(n)) {
					foundBy(t, n, owner, out, slow)
				}
			}
		}
	}
}

// foundBy looks whether a slow quorum without the owner finds what all others but one took as it was.
func foundBy(t *testing.T, n, owner, out int, slow []int) {
	t.Helper()
	var l []Said
	for _, r := range slow {
		if r != out {
			l = append(l, same(r, 1, attrA()))
		}
	}
	if len(l) == len(slow) {
		recovers(t, n, owner, l)
		return
	}
	for _, s := range strangers(out) {
		recovers(t, n, owner, append(slices.Clone(l), s))
	}
}

// taken is what the others have of a proposal, by the digits of k: 0: they never heard of it; 1: as it was; 2: with more.
func taken(n, owner, k int) ([]api.Attr, []Said) {
	var replies []api.Attr
	var l []Said
	for _, r := range others(n, owner) {
		switch k % 3 {
		case 0:
			l = append(l, unknown(r))
		case 1:
			replies = append(replies, attrA())
			l = append(l, same(r, 1, attrA()))
		case 2:
			replies = append(replies, attrB())
			l = append(l, other(r, 1, attrB()))
		}
		k /= 3
	}
	return replies, l
}

func TestWhatPreCommitsPreparedFinds(t *testing.T) { // P17.4: by whatever replies it was committed
	for _, n := range []int{3, 5, 7} {
		committed := 0
		for owner := range n {
			for k := range []int{9, 81, 729}[n/2-1] {
				replies, l := taken(n, owner, k)
				if what, a := Pre(n, true, attrA(), replies, false); what != Commit || a != attrA() {
					continue
				}
				committed++
				for _, slow := range choose(everyone(n-1), Slow(n)) {
					var told []Said
					for _, place := range slow {
						told = append(told, l[place])
					}
					recovers(t, n, owner, told)
				}
			}
		}
		// All took it as it was, or one of the others didn't, in one of two ways.
		if committed != n*(1+2*(n-1)) {
			t.Errorf("%d: committed %d times", n, committed)
		}
	}
}

func TestWhatIsAcceptedIsFound(t *testing.T) { // P17.4: two slow quorums have one in common
	joined := attr(3, 4, 0, 5, 0, 0, 0, 2)
	for _, n := range []int{3, 5, 7} {
		for _, taken := range choose(everyone(n), Slow(n)) {
			for _, slow := range choose(everyone(n), Slow(n)) {
				var l []Said
				for _, r := range slow {
					s := same(r, 1, attrA()) // what is proposed matters no more, neither does what was accepted ahead of it
					if slices.Contains(taken, r) {
						s = stands(r, api.Accepted, ballot(2, 0), 1, joined)
					} else if r%2 == 0 {
						s = stands(r, api.Accepted, ballot(1, 6), 1, attrB())
					}
					l = append(l, s)
				}
				for owner := range n {
					if what, x, a := Prepared(n, owner, l); what != Accept || x != put(1) || a != joined {
						t.Fatalf("Prepared(%d, %d, %+v) = %d, %v, %d", n, owner, l, what, x, a)
					}
				}
			}
		}
	}
}
