package quorum

import (
	"math"
	"slices"

	"concord/api"
)

func at(replica, slot int) api.Inst { return api.Inst{Replica: replica, Slot: slot} }

func ballot(epoch, replica int) api.Ballot { return api.Ballot{Epoch: epoch, Replica: replica} }

// attr is attributes with these slots, and nought behind them.
func attr(seq int, slots ...int) api.Attr {
	a := api.Attr{Seq: seq}
	copy(a.Deps[:], slots)
	return a
}

// alike is attributes with this slot in each row.
func alike(seq, slot int) api.Attr {
	return attr(seq, slices.Repeat([]int{slot}, api.MaxNodes)...)
}

// attrA is what is mostly proposed, attrB and attrC what others saw.
func attrA() api.Attr { return attr(3, 1, 0, 5) }

func attrB() api.Attr { return attr(2, 4, 0, 1, 0, 0, 0, 2) }

func attrC() api.Attr { return attr(9, 0, 7) }

// put is a command that is told apart from others by its client's number.
func put(seq int) api.Command {
	return api.Command{Kind: api.KPut, Client: 1, Seq: seq, Key: "a", Value: "v"}
}

// stands is what a replica says of an instance that it took at a ballot.
func stands(replica, status int, voted api.Ballot, seq int, a api.Attr) Said {
	return Said{replica, api.Cell{Status: status, Promised: ballot(9, 0), Voted: voted, Cmd: put(seq), Attr: a}}
}

// first is what a replica says of an instance that it took at the zero ballot.
func first(replica, status, seq int, a api.Attr) Said {
	return stands(replica, status, api.Ballot{}, seq, a)
}

// same is what a replica says of a proposal that it took as it was.
func same(replica, seq int, a api.Attr) Said {
	s := first(replica, api.Preaccepted, seq, a)
	s.Cell.Same = true
	return s
}

// other is what a replica says of a proposal behind which it saw more.
func other(replica, seq int, a api.Attr) Said { return first(replica, api.Preaccepted, seq, a) }

// unknown is what a replica says of an instance that it never heard of ahead of the Prepare.
func unknown(replica int) Said { return Said{replica, api.Cell{Promised: ballot(9, 0)}} }

// edges are numbers about each that a cluster may have, and about where numbers end.
func edges() []int {
	return []int{
		math.MinInt, math.MinInt + 1, math.MinInt + 2, math.MinInt + 3, -1 << 32, -1 << 31, -8, -7, -6, -5, -4, -3, -2, -1,
		0, 1, 2, 3, 4, 5, 6, 7, 8, 9, 10, 11, 13, 63, 1 << 31, 1 << 32, 1<<32 + 3, 1<<32 + 5, 1<<32 + 7,
		math.MaxInt - 2, math.MaxInt - 1, math.MaxInt,
	}
}

// chance makes numbers that look like chance, the same ones at each run.
type chance uint64

func (c *chance) below(n int) int {
	*c = *c*6364136223846793005 + 1442695040888963407
	return int(uint64(*c) >> 33 % uint64(n))
}

// choose answers each choice of k of l, each in the order of l.
func choose(l []int, k int) [][]int {
	if k == 0 {
		return [][]int{nil}
	}
	if k > len(l) {
		return nil
	}
	var all [][]int
	for _, rest := range choose(l[1:], k-1) {
		all = append(all, append([]int{l[0]}, rest...))
	}
	return append(all, choose(l[1:], k)...)
}

// orders answers l in each order.
func orders[T any](l []T) [][]T {
	if len(l) == 0 {
		return [][]T{nil}
	}
	var all [][]T
	for k, x := range l {
		for _, o := range orders(slices.Delete(slices.Clone(l), k, k+1)) {
			all = append(all, append(o, x))
		}
	}
	return all
}

// others are all replicas of n but one.
func others(n, but int) []int {
	var l []int
	for r := range n {
		if r != but {
			l = append(l, r)
		}
	}
	return l
}

// everyone is all replicas of n.
func everyone(n int) []int { return others(n, -1) }

// come is what something comes to.
type come struct {
	what int
	cmd  api.Command
	attr api.Attr
}

// preOf is P17.2, sentence by sentence.
func preOf(n int, isFirst bool, own api.Attr, replies []api.Attr, late bool) (int, api.Attr) {
	var alien []api.Attr
	for _, a := range replies {
		if a.Seq != own.Seq || !slices.Equal(a.Deps[:], own.Deps[:]) {
			alien = append(alien, a)
		}
	}
	mine := len(replies) - len(alien)
	fast, slow := n-1, n/2+1
	if isFirst && !(mine < fast-1) {
		return 1, own
	}
	enough := !(len(replies) < slow-1)
	if enough && (!isFirst || late || len(alien) > 1) {
		joined := own
		for _, a := range alien { // own is in it by now
			joined.Seq = slices.Max([]int{joined.Seq, a.Seq})
			for k := range joined.Deps {
				joined.Deps[k] = slices.Max([]int{joined.Deps[k], a.Deps[k]})
			}
		}
		return 2, joined
	}
	return 0, api.Attr{}
}

// places are those of l whose cells are of a status.
func places(l []Said, status int) []int {
	var p []int
	for k := range l {
		if l[k].Cell.Status == status {
			p = append(p, k)
		}
	}
	return p
}

// greater tells whether a's Voted is above b's, by P6.2.
func greater(a, b Said) bool {
	v, w := a.Cell.Voted, b.Cell.Voted
	if v.Epoch == w.Epoch {
		return v.Replica > w.Replica
	}
	return v.Epoch > w.Epoch
}

// greatest is, of these places of l, the first one whose Voted none is above.
func greatest(l []Said, places []int) Said {
	k := slices.IndexFunc(places, func(p int) bool {
		return !slices.ContainsFunc(places, func(q int) bool { return greater(l[q], l[p]) })
	})
	return l[places[k]]
}

// preparedOf is P17.3, number by number.
func preparedOf(n, owner int, l []Said) come {
	of := func(what int, s Said) come { return come{what, s.Cell.Cmd, s.Cell.Attr} }
	if !(len(l) >= n/2+1) { // 1
		return come{what: 0}
	}
	if p := places(l, 3); p != nil { // 2
		return of(1, l[p[0]])
	}
	if p := places(l, 2); p != nil { // 3
		return of(2, greatest(l, p))
	}
	pre := places(l, 1)
	if pre == nil { // 4
		return come{what: 4}
	}
	alike := slices.DeleteFunc(slices.Clone(pre), func(p int) bool { return !l[p].Cell.Same })
	told := slices.ContainsFunc(l, func(s Said) bool { return s.Replica == owner })
	if !told && len(alike) > 0 && !(len(alike) < n/2) { // 5
		return of(2, l[alike[0]])
	}
	return of(3, greatest(l, pre)) // 6
}
