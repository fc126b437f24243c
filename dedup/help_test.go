package dedup

import (
	"slices"
	"strconv"
	"strings"
	"testing"

	"concord/api"
	"concord/kv"
)

// owners is what the clients were told, as the package is handed it.
type owners = [api.MaxOwner]api.Owner

// found is an answer with something in each field.
func found() api.Reply {
	return api.Reply{Found: true, Value: "v", Version: 3, Pairs: pairs(2)}
}

// pairs are n that rise.
func pairs(n int) []api.Pair {
	var l []api.Pair
	for k := range n {
		l = append(l, api.Pair{Key: "k" + strconv.Itoa(100 + k)[1:], Value: "of " + strconv.Itoa(k), Version: k + 1})
	}
	return l
}

// full is a right list of which each client was told something else, with pairs of its own.
func full() owners {
	var l owners
	for k := range l {
		l[k] = api.Owner{Seq: 10 * (k + 1), Reply: api.Reply{Found: k%2 == 0, Value: strings.Repeat("v", k), Version: k, Pairs: pairs(k + 1)}}
	}
	return l
}

// only is a list in which client 1 to 8 alone is told something.
func only(client int, o api.Owner) owners {
	var l owners
	l[client-1] = o
	return l
}

// sameReply holds two replies against each other field by field; lists without elements are the same.
func sameReply(a, b api.Reply) bool {
	return a.Why == b.Why && a.Found == b.Found && a.Value == b.Value && a.Version == b.Version && slices.Equal(a.Pairs, b.Pairs)
}

func sameOwner(a, b api.Owner) bool { return a.Seq == b.Seq && sameReply(a.Reply, b.Reply) }

func same(a, b owners) bool { return slices.EqualFunc(a[:], b[:], sameOwner) }

// rightReply is P12.1's first sentence, each of its parts asked alone.
func rightReply(r api.Reply) bool {
	switch {
	case r.Why != 0 && r.Why != 7:
		return false
	case len(r.Value) > 64:
		return false
	case r.Version < 0:
		return false
	case len(r.Pairs) > 8:
		return false
	}
	return kv.Right(r.Pairs)
}

// rightOwners is P12.1's second sentence.
func rightOwners(l owners) bool {
	for _, o := range l {
		if o.Seq < 0 || o.Seq > 1<<40 || !rightReply(o.Reply) {
			return false
		}
		if o.Seq == 0 && !sameReply(o.Reply, api.Reply{}) {
			return false
		}
	}
	return true
}

// chance makes numbers that look like chance, the same ones at each run.
type chance uint64

func (c *chance) below(n int) int {
	*c = *c*6364136223846793005 + 1442695040888963407
	return int(uint64(*c) >> 33 % uint64(n))
}

// one answers one of these.
func one[T any](c *chance, of ...T) T { return of[c.below(len(of))] }

// reply is one that is right, but for one of five or so if wrong is asked for.
func (c *chance) reply(wrong bool) api.Reply {
	r := api.Reply{
		Why:     one(c, api.OK, api.OK, api.ErrFull),
		Found:   c.below(2) == 0,
		Value:   strings.Repeat("v", c.below(65)),
		Version: c.below(5),
		Pairs:   pairs(c.below(9)),
	}
	if !wrong {
		return r
	}
	switch c.below(30) {
	case 0:
		r.Why = api.Errno(c.below(14) - 1)
	case 1:
		r.Value = strings.Repeat("v", 65+c.below(9))
	case 2:
		r.Version = -1 - c.below(3)
	case 3:
		r.Pairs = pairs(9 + c.below(30))
	case 4:
		r.Pairs = slices.Concat(pairs(c.below(3)), pairs(1+c.below(3)))
	case 5:
		r.Pairs = []api.Pair{{Key: strings.Repeat("k", c.below(20)), Value: "v", Version: c.below(3)}}
	}
	return r
}

// strange is what stands in a list's spare room: it must be neither read nor written.
func strange() api.Pair { return api.Pair{Key: "k", Value: "strange", Version: 77} }

// within answers l with room ahead of it and behind it, and the whole of it.
func within(l []api.Pair) (inner, whole []api.Pair) {
	whole = slices.Repeat([]api.Pair{strange()}, len(l)+12)
	copy(whole[4:], l)
	return whole[4 : 4+len(l)], whole
}

// roomy answers l with each list of it within a greater one, and those.
func roomy(l owners) (owners, [][]api.Pair) {
	var wholes [][]api.Pair
	for k := range l {
		inner, whole := within(l[k].Reply.Pairs)
		l[k].Reply.Pairs = inner
		wholes = append(wholes, whole)
	}
	return l, wholes
}

// deep answers lists that share nothing with these.
func deep(lists [][]api.Pair) [][]api.Pair {
	var out [][]api.Pair
	for _, l := range lists {
		out = append(out, slices.Clone(l))
	}
	return out
}

func sameLists(a, b [][]api.Pair) bool { return slices.EqualFunc(a, b, slices.Equal[[]api.Pair]) }

// scribble writes over l and its spare room.
func scribble(l []api.Pair) {
	l = l[:cap(l)]
	for k := range l {
		l[k] = api.Pair{Key: "scribbled", Value: "over", Version: -9}
	}
}

// eachApart writes over one list of got after the other, and tells whether those that weren't yet are still as in want.
func eachApart(t *testing.T, what string, got, want owners) {
	t.Helper()
	for k := range got {
		scribble(got[k].Reply.Pairs)
		for j := k + 1; j < len(got); j++ {
			if !sameOwner(got[j], want[j]) {
				t.Fatalf("%s: the answer's lists %d and %d share memory", what, k, j)
			}
		}
	}
}
