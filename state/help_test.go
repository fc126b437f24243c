package state

import (
	"encoding/binary"
	"slices"
	"strconv"
	"strings"
	"testing"

	"concord/api"
)

// owners is what the clients were told, as a state holds it.
type owners = [api.MaxOwner]api.Owner

func pair(key, value string, version int) api.Pair {
	return api.Pair{Key: key, Value: value, Version: version}
}

// pairs are n that rise.
func pairs(n int) []api.Pair {
	var l []api.Pair
	for k := range n {
		l = append(l, pair("k"+strconv.Itoa(100 + k)[1:], "of "+strconv.Itoa(k), k+1))
	}
	return l
}

// of is a state with these pairs, and clients of whom nothing is known.
func of(l ...api.Pair) api.State { return api.State{Pairs: l} }

// found is an answer with something in each field.
func found() api.Reply { return api.Reply{Found: true, Value: "v", Version: 3, Pairs: pairs(2)} }

// told is a list of which each client was told something else at the number 10 times its own.
func told() owners {
	var l owners
	for k := range l {
		l[k] = api.Owner{Seq: 10 * (k + 1), Reply: api.Reply{Found: k%2 == 0, Value: strings.Repeat("v", k), Version: k, Pairs: pairs(k + 1)}}
	}
	l[5].Reply.Why = api.ErrFull
	return l
}

// rich is a right state with something everywhere.
func rich() api.State { return api.State{Pairs: pairs(12), Owners: told()} }

// noted is s with the reply to a client's number.
func noted(s api.State, client, seq int, r api.Reply) api.State {
	s.Owners[client-1] = api.Owner{Seq: seq, Reply: r}
	return s
}

// sameReply holds two replies against each other field by field; lists without elements are the same.
func sameReply(a, b api.Reply) bool {
	return a.Why == b.Why && a.Found == b.Found && a.Value == b.Value && a.Version == b.Version && slices.Equal(a.Pairs, b.Pairs)
}

func sameReplies(a, b []api.Reply) bool { return slices.EqualFunc(a, b, sameReply) }

// equal is P13.1's Same, each part asked alone.
func equal(a, b api.State) bool {
	for k := range a.Owners {
		if a.Owners[k].Seq != b.Owners[k].Seq || !sameReply(a.Owners[k].Reply, b.Owners[k].Reply) {
			return false
		}
	}
	return slices.Equal(a.Pairs, b.Pairs)
}

// isPairs is what a list of pairs must be, at most so many.
func isPairs(l []api.Pair, most int) bool {
	for k, p := range l {
		if len(p.Key) < 1 || len(p.Key) > 16 || len(p.Value) > 64 || p.Version < 1 {
			return false
		}
		if k > 0 && l[k-1].Key >= p.Key {
			return false
		}
	}
	return len(l) <= most
}

// isRight is P13.1's Right by the words of P11.1 and P12.1.
func isRight(s api.State) bool {
	for _, o := range s.Owners {
		r := o.Reply
		switch {
		case o.Seq < 0 || o.Seq > 1<<40:
			return false
		case o.Seq == 0 && !sameReply(r, api.Reply{}):
			return false
		case r.Why != 0 && r.Why != 7:
			return false
		case len(r.Value) > 64 || r.Version < 0 || !isPairs(r.Pairs, 8):
			return false
		}
	}
	return isPairs(s.Pairs, 32)
}

// number is a number's bytes: the library's form of it is layer 3's.
func number(n int) []byte { return binary.AppendVarint(nil, int64(n)) }

func text(s string) []byte { return slices.Concat(number(len(s)), []byte(s)) }

func flag(f bool) []byte {
	if f {
		return []byte{1}
	}
	return []byte{0}
}

// bytesOf is P13.4's first sentence, whether the state is right or not.
func bytesOf(s api.State) []byte {
	b := bytesOfPairs(s.Pairs)
	for _, o := range s.Owners {
		b = append(b, bytesOfOwner(o)...)
	}
	return b
}

func bytesOfPairs(l []api.Pair) []byte {
	b := number(len(l))
	for _, p := range l {
		b = slices.Concat(b, text(p.Key), text(p.Value), number(p.Version))
	}
	return b
}

func bytesOfOwner(o api.Owner) []byte {
	if o.Seq == 0 {
		return number(0)
	}
	r := o.Reply
	return slices.Concat(number(o.Seq), number(int(r.Why)), flag(r.Found), text(r.Value), number(r.Version), bytesOfPairs(r.Pairs))
}

// chance makes numbers that look like chance, the same ones at each run.
type chance uint64

func (c *chance) below(n int) int {
	*c = *c*6364136223846793005 + 1442695040888963407
	return int(uint64(*c) >> 33 % uint64(n))
}

// one answers one of these.
func one[T any](c *chance, of ...T) T { return of[c.below(len(of))] }

// reply is a right one.
func (c *chance) reply() api.Reply {
	return api.Reply{
		Why:     one(c, api.OK, api.OK, api.ErrFull),
		Found:   c.below(2) == 0,
		Value:   strings.Repeat("v", c.below(65)),
		Version: one(c, 0, 1, 2, 63, 64, 1<<40),
		Pairs:   pairs(c.below(9)),
	}
}

// state is a right one.
func (c *chance) state() api.State {
	s := of(pairs(c.below(33))...)
	for k := range s.Owners {
		if c.below(3) > 0 {
			s.Owners[k] = api.Owner{Seq: one(c, 1, 2, 63, 64, 1<<40), Reply: c.reply()}
		}
	}
	return s
}

// command is a right one, of few keys, or now and then one that isn't.
func (c *chance) command() api.Command {
	key := one(c, "a", "b", "c", "d", "e\x00", "\xff")
	value := one(c, "", "1", "2", strings.Repeat("v", 64))
	d := api.Command{Kind: 1 + c.below(5), Client: 1 + c.below(8), Seq: 1 + c.below(40), Key: key}
	switch d.Kind {
	case 2:
		d.Value = value
	case 4:
		d.Old, d.Value = value, one(c, "", "1", "2")
	case 5:
		d.Key, d.End = one(c, "", key), one(c, "", "b", "d", "\xff")
	}
	switch c.below(60) {
	case 0:
		d = api.Command{}
	case 1:
		d.Client = one(c, -1, 0, 9)
	case 2:
		d.Seq = one(c, -1, 0, 1<<40+1)
	case 3:
		d.Kind = one(c, -1, 0, 6)
	case 4:
		d.Key = strings.Repeat("k", 17)
	case 5:
		d.Value = strings.Repeat("v", 65)
	}
	return d
}

// strange is what stands in a list's spare room: it must be neither read nor written.
func strange() api.Pair { return pair("k", "strange", 77) }

// within answers l with room ahead of it and behind it, and the whole of it.
func within(l []api.Pair) (inner, whole []api.Pair) {
	whole = slices.Repeat([]api.Pair{strange()}, len(l)+12)
	copy(whole[4:], l)
	return whole[4 : 4+len(l)], whole
}

// roomy answers s with each list of it within a greater one, and those.
func roomy(s api.State) (api.State, [][]api.Pair) {
	inner, whole := within(s.Pairs)
	s.Pairs = inner
	wholes := [][]api.Pair{whole}
	for k := range s.Owners {
		inner, whole := within(s.Owners[k].Reply.Pairs)
		s.Owners[k].Reply.Pairs = inner
		wholes = append(wholes, whole)
	}
	return s, wholes
}

// deep answers lists that share nothing with these.
func deep(lists [][]api.Pair) [][]api.Pair {
	var out [][]api.Pair
	for _, l := range lists {
		out = append(out, slices.Clone(l))
	}
	return out
}

func sameLists(a, b [][]api.Pair) bool { return slices.EqualFunc(a, b, slices.Equal[[]api.Pair]) }

// lists are all those of an answer.
func lists(s api.State, replies ...api.Reply) [][]api.Pair {
	all := [][]api.Pair{s.Pairs}
	for _, o := range s.Owners {
		all = append(all, o.Reply.Pairs)
	}
	for _, r := range replies {
		all = append(all, r.Pairs)
	}
	return all
}

// scribble writes over l and its spare room.
func scribble(l []api.Pair) {
	l = l[:cap(l)]
	for k := range l {
		l[k] = pair("scribbled", "over", -9)
	}
}

// eachApart writes over one list after the other, and tells whether those that weren't yet are still as they were.
func eachApart(t *testing.T, what string, got [][]api.Pair) {
	t.Helper()
	want := deep(got)
	for k := range got {
		scribble(got[k])
		for j := k + 1; j < len(got); j++ {
			if !slices.Equal(got[j], want[j]) {
				t.Fatalf("%s: the answer's lists %d and %d share memory", what, k, j)
			}
		}
	}
}
