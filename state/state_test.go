package state

import (
	"math"
	"slices"
	"strings"
	"testing"

	"concord/api"
)

func TestTheNumbersAreTheChapters(t *testing.T) { // the tables are written with these
	if api.KGet != 1 || api.KPut != 2 || api.KDelete != 3 || api.KSwap != 4 || api.KRange != 5 {
		t.Fatal("the kinds have other numbers")
	}
	if api.MaxOwner != 8 || api.MaxSeq != 1<<40 || api.MaxKey != 16 || api.MaxValue != 64 || api.MaxPairs != 32 || api.MaxRange != 8 {
		t.Fatal("the limits have other numbers")
	}
	if api.ErrArg != 1 || api.ErrLong != 2 || api.ErrShort != 3 || api.ErrForm != 4 || api.ErrTail != 5 || api.ErrFull != 7 || api.ErrOld != 9 {
		t.Fatal("the refusals have other numbers")
	}
}

// wrongs are states that aren't right, each for one reason.
func wrongs() []api.State {
	k17, v65 := strings.Repeat("k", 17), strings.Repeat("v", 65)
	var l []api.State
	for _, p := range []api.Pair{{}, pair("", "v", 1), pair(k17, "v", 1), pair("l", v65, 1), pair("l", "v", 0), pair("l", "v", -1), pair("l", "v", math.MinInt)} {
		l = append(l, of(p), api.State{Pairs: []api.Pair{p}, Owners: told()})
	}
	l = append(l,
		of(pairs(33)...),
		of(pair("b", "", 1), pair("a", "", 1)),
		of(pair("a", "", 1), pair("a", "", 1)),
		api.State{Pairs: slices.Concat(pairs(3), pairs(1)), Owners: told()})
	for _, o := range []api.Owner{
		{Seq: -1}, {Seq: 1<<40 + 1}, {Seq: math.MinInt}, {Seq: math.MaxInt},
		{Seq: 1, Reply: api.Reply{Why: api.ErrArg}}, {Seq: 1, Reply: api.Reply{Why: api.ErrOld}}, {Seq: 1, Reply: api.Reply{Why: -1}},
		{Seq: 1, Reply: api.Reply{Value: v65}}, {Seq: 1, Reply: api.Reply{Version: -1}},
		{Seq: 1, Reply: api.Reply{Pairs: pairs(9)}}, {Seq: 1, Reply: api.Reply{Pairs: []api.Pair{{}}}},
		{Seq: 1, Reply: api.Reply{Pairs: []api.Pair{pair("b", "", 1), pair("a", "", 1)}}},
		{Reply: found()}, {Reply: api.Reply{Found: true}}, {Reply: api.Reply{Why: api.ErrFull}},
		{Reply: api.Reply{Value: "v"}}, {Reply: api.Reply{Version: 1}}, {Reply: api.Reply{Pairs: pairs(1)}},
	} {
		for k := range api.MaxOwner {
			s := rich()
			s.Owners[k] = o
			l = append(l, s)
			s = api.State{}
			s.Owners[k] = o
			l = append(l, s)
		}
	}
	return l
}

// rights are states that are right, at the ends of what may be.
func rights() []api.State {
	k16, v64 := strings.Repeat("k", 16), strings.Repeat("v", 64)
	most := noted(rich(), 3, 1<<40, api.Reply{Found: true, Value: v64, Version: math.MaxInt, Pairs: pairs(8)})
	most.Pairs = pairs(32)
	most.Pairs[31] = pair(k16[:15]+"z", v64, math.MaxInt)
	return []api.State{
		{},
		{Pairs: []api.Pair{}},
		rich(),
		most,
		of(pair(k16, v64, math.MaxInt)),
		of(pair("\x00", "", 1), pair("\x00\x00", "\xff", 1), pair("\xff", "\x00", 1)),
		of(pairs(32)...),
		noted(api.State{}, 1, 1, api.Reply{}),
		noted(api.State{}, 8, 1<<40, api.Reply{Why: api.ErrFull}),
		noted(of(pairs(1)...), 5, 63, api.Reply{Value: v64}),
		noted(of(pairs(1)...), 5, 64, api.Reply{Pairs: pairs(8)}),
		{Owners: told()},
	}
}

func TestRight(t *testing.T) { // P13.1
	for i, s := range rights() {
		if !Right(s) {
			t.Errorf("%d: %v isn't right", i, s)
		}
	}
	for i, s := range wrongs() {
		if Right(s) {
			t.Errorf("%d: %v is right", i, s)
		}
	}
}

func TestSame(t *testing.T) { // P13.1
	for i, a := range slices.Concat(rights(), wrongs()) {
		for j, b := range slices.Concat(rights(), wrongs()) {
			if got := Same(a, b); got != equal(a, b) || i == j && !got {
				t.Errorf("Same(%v, %v) = %t", a, b, got)
			}
		}
	}
	// Lists without elements are the same.
	a, b := noted(api.State{Pairs: []api.Pair{}}, 4, 1, api.Reply{Pairs: pairs(3)[:0]}), noted(api.State{}, 4, 1, api.Reply{})
	if !Same(a, b) || !Same(b, a) {
		t.Error("nil and a list without elements aren't the same")
	}
}

func TestSameAsksEachField(t *testing.T) { // P13.1
	differ := func(what string, k int, s api.State) {
		if Same(s, rich()) || Same(rich(), s) {
			t.Errorf("%s at %d: the same", what, k)
		}
		if !Same(s, s) {
			t.Errorf("%s at %d: not the same as itself", what, k)
		}
	}
	for k := range 12 {
		for _, p := range []api.Pair{{}, pair("other", pairs(12)[k].Value, k+1), pair(pairs(12)[k].Key, "other", k+1), pair(pairs(12)[k].Key, pairs(12)[k].Value, k)} {
			s := rich()
			s.Pairs[k] = p
			differ("pair", k, s)
		}
		s := rich()
		s.Pairs = s.Pairs[:k]
		differ("fewer", k, s)
		s.Pairs = slices.Delete(pairs(12), k, k+1)
		differ("without", k, s)
	}
	for k := range api.MaxOwner {
		for j, o := range []func(o *api.Owner){
			func(o *api.Owner) { o.Seq++ },
			func(o *api.Owner) { o.Reply.Why = api.ErrArg },
			func(o *api.Owner) { o.Reply.Found = !o.Reply.Found },
			func(o *api.Owner) { o.Reply.Value = "other" },
			func(o *api.Owner) { o.Reply.Version = -o.Reply.Version - 1 },
			func(o *api.Owner) { o.Reply.Pairs = nil },
			func(o *api.Owner) { o.Reply.Pairs = o.Reply.Pairs[:k] },
			func(o *api.Owner) { o.Reply.Pairs = pairs(k + 2) },
			func(o *api.Owner) { o.Reply.Pairs[k].Version++ },
			func(o *api.Owner) { o.Reply.Pairs[0].Key = "other" },
			func(o *api.Owner) { o.Reply.Pairs[k].Value = "other" },
		} {
			s := rich()
			o(&s.Owners[k])
			differ("owner", 100*k+j, s)
		}
	}
}

func TestApplyOfNothing(t *testing.T) { // P13.2: the zero Command
	for i, s := range slices.Concat(rights(), wrongs()) {
		if got, r := Apply(s, api.Command{}); !equal(got, s) || !sameReply(r, api.Reply{}) {
			t.Errorf("%d: %v, %v", i, got, r)
		}
	}
}

// wrongCommands are commands that may not be.
func wrongCommands() []api.Command {
	k17, v65 := strings.Repeat("k", 17), strings.Repeat("v", 65)
	return []api.Command{
		{Client: 1}, {Seq: 1}, {Key: "a"}, {End: "a"}, {Old: "a"}, {Value: "a"}, {Client: 1, Seq: 1, Key: "a"},
		{Kind: -1, Client: 1, Seq: 99, Key: "k00"}, {Kind: 6, Client: 1, Seq: 99, Key: "k00"}, {Kind: math.MinInt, Client: 1, Seq: 99}, {Kind: 2 + 1<<32, Client: 1, Seq: 99, Key: "k00"},
		{Kind: api.KPut, Client: 0, Seq: 99, Key: "k00", Value: "x"}, {Kind: api.KPut, Client: 9, Seq: 99, Key: "k00", Value: "x"}, {Kind: api.KPut, Client: -1, Seq: 99, Key: "k00", Value: "x"},
		{Kind: api.KPut, Client: 1, Seq: 0, Key: "k00", Value: "x"}, {Kind: api.KPut, Client: 1, Seq: -1, Key: "k00", Value: "x"}, {Kind: api.KPut, Client: 1, Seq: 1<<40 + 1, Key: "k00", Value: "x"},
		{Kind: api.KPut, Client: 1, Seq: math.MaxInt, Key: "k00", Value: "x"}, {Kind: api.KPut, Client: 1, Seq: math.MinInt, Key: "k00", Value: "x"},
		{Kind: api.KGet, Client: 1, Seq: 99}, {Kind: api.KPut, Client: 1, Seq: 99, Value: "x"}, {Kind: api.KDelete, Client: 1, Seq: 99}, {Kind: api.KSwap, Client: 1, Seq: 99},
		{Kind: api.KGet, Client: 1, Seq: 99, Key: k17}, {Kind: api.KPut, Client: 1, Seq: 99, Key: k17}, {Kind: api.KDelete, Client: 1, Seq: 99, Key: k17}, {Kind: api.KSwap, Client: 1, Seq: 99, Key: k17}, {Kind: api.KRange, Client: 1, Seq: 99, Key: k17},
		{Kind: api.KRange, Client: 1, Seq: 99, End: k17},
		{Kind: api.KPut, Client: 1, Seq: 99, Key: "k00", Value: v65}, {Kind: api.KSwap, Client: 1, Seq: 99, Key: "k00", Value: v65}, {Kind: api.KSwap, Client: 1, Seq: 99, Key: "k00", Old: v65},
		{Kind: api.KGet, Client: 1, Seq: 99, Key: "k00", Value: "x"}, {Kind: api.KGet, Client: 1, Seq: 99, Key: "k00", End: "x"}, {Kind: api.KPut, Client: 1, Seq: 99, Key: "k00", Old: "x"},
		{Kind: api.KDelete, Client: 1, Seq: 99, Key: "k00", Value: "x"}, {Kind: api.KSwap, Client: 1, Seq: 99, Key: "k00", Old: "of 0", End: "x"}, {Kind: api.KRange, Client: 1, Seq: 99, Key: "k00", Value: "x"},
		// What isn't right is refused ahead of a number that was there.
		{Kind: api.KGet, Client: 1, Seq: 10}, {Kind: api.KGet, Client: 1, Seq: 5}, {Kind: 6, Client: 2, Seq: 20, Key: "k00"}, {Client: 1, Seq: 10},
	}
}

func TestApplyOfWrongCommands(t *testing.T) { // P13.2: ErrArg
	for i, c := range wrongCommands() {
		for j, s := range []api.State{{}, rich(), wrongs()[0], wrongs()[len(wrongs())-1]} {
			if got, r := Apply(s, c); !equal(got, s) || !sameReply(r, api.Reply{Why: api.ErrArg}) {
				t.Errorf("%d, %d: Apply(%v, %v) = %v, %v", i, j, s, c, got, r)
			}
		}
	}
}

// kinds are one command of each kind, of this client and number, and two that find nothing; all do something else to rich.
func kinds(client, seq int) []api.Command {
	return []api.Command{
		{Kind: api.KGet, Client: client, Seq: seq, Key: "k00"},
		{Kind: api.KPut, Client: client, Seq: seq, Key: "k00", Value: "x"},
		{Kind: api.KPut, Client: client, Seq: seq, Key: "new", Value: "x"},
		{Kind: api.KDelete, Client: client, Seq: seq, Key: "k00"},
		{Kind: api.KSwap, Client: client, Seq: seq, Key: "k00", Old: "of 0", Value: "x"},
		{Kind: api.KRange, Client: client, Seq: seq},
	}
}

func TestAgainAndOld(t *testing.T) { // P13.2
	for client := 1; client <= api.MaxOwner; client++ {
		for i, c := range kinds(client, 10*client) {
			s := rich()
			// The number counts alone: what it was asked for then isn't known.
			if got, r := Apply(s, c); !equal(got, s) || !sameReply(r, told()[client-1].Reply) {
				t.Errorf("%d of %d again: %v, %v", i, client, got, r)
			}
			for _, by := range []int{1, 2, 9} {
				c.Seq = 10*client - by
				if got, r := Apply(s, c); !equal(got, s) || !sameReply(r, api.Reply{Why: api.ErrOld}) {
					t.Errorf("%d of %d old by %d: %v, %v", i, client, by, got, r)
				}
			}
		}
	}
}

func TestNewNeedNotBeTheNext(t *testing.T) { // P13.2
	for _, seq := range []int{11, 12, 1 << 20, 1 << 32, 1 << 40} {
		got, r := Apply(rich(), api.Command{Kind: api.KGet, Client: 1, Seq: seq, Key: "k03"})
		want := api.Reply{Found: true, Value: "of 3", Version: 4}
		if !equal(got, noted(rich(), 1, seq, want)) || !sameReply(r, want) {
			t.Errorf("%d: %v, %v", seq, got, r)
		}
	}
}

// deed is a command without client and number, what it is answered, and what it makes of the pairs.
type deed struct {
	what    string
	have    []api.Pair
	c       api.Command
	r       api.Reply
	becomes []api.Pair
}

func deeds() []deed {
	k16, v64 := strings.Repeat("k", 16), strings.Repeat("v", 64)
	ab := []api.Pair{pair("a", "1", 3), pair("b", "", 5)}
	last := slices.Concat(pairs(31), []api.Pair{pair("z", "1", 7)})
	full := api.Reply{Why: api.ErrFull}
	return slices.Concat([]deed{
		{"get", ab, api.Command{Kind: 1, Key: "a"}, api.Reply{Found: true, Value: "1", Version: 3}, ab},
		{"get of an empty value", ab, api.Command{Kind: 1, Key: "b"}, api.Reply{Found: true, Version: 5}, ab},
		{"get of none", ab, api.Command{Kind: 1, Key: "c"}, api.Reply{}, ab},
		{"get of none between", ab, api.Command{Kind: 1, Key: "a\x00"}, api.Reply{}, ab},
		{"get of none ahead", ab, api.Command{Kind: 1, Key: "A"}, api.Reply{}, ab},
		{"get in nothing", nil, api.Command{Kind: 1, Key: "a"}, api.Reply{}, nil},
		{"get in an empty list", []api.Pair{}, api.Command{Kind: 1, Key: "a"}, api.Reply{}, nil},
		{"put", ab, api.Command{Kind: 2, Key: "a", Value: "2"}, api.Reply{Found: true, Version: 4}, []api.Pair{pair("a", "2", 4), ab[1]}},
		{"put of the same", ab, api.Command{Kind: 2, Key: "a", Value: "1"}, api.Reply{Found: true, Version: 4}, []api.Pair{pair("a", "1", 4), ab[1]}},
		{"put of an empty value", ab, api.Command{Kind: 2, Key: "a"}, api.Reply{Found: true, Version: 4}, []api.Pair{pair("a", "", 4), ab[1]}},
		{"put of a new one", ab, api.Command{Kind: 2, Key: "c", Value: "2"}, api.Reply{Version: 1}, []api.Pair{ab[0], ab[1], pair("c", "2", 1)}},
		{"put of a new one between", ab, api.Command{Kind: 2, Key: "aa", Value: "2"}, api.Reply{Version: 1}, []api.Pair{ab[0], pair("aa", "2", 1), ab[1]}},
		{"put in nothing", nil, api.Command{Kind: 2, Key: k16, Value: v64}, api.Reply{Version: 1}, []api.Pair{pair(k16, v64, 1)}},
		{"put of the last there is room for", last[1:], api.Command{Kind: 2, Key: "k00"}, api.Reply{Version: 1}, slices.Concat([]api.Pair{pair("k00", "", 1)}, last[1:])},
		{"put of one too many", last, api.Command{Kind: 2, Key: "a", Value: "2"}, full, last},
		{"put of one too many at the end", last, api.Command{Kind: 2, Key: "zz", Value: "2"}, full, last},
		{"put of one that is there, where there is no room", last, api.Command{Kind: 2, Key: "z", Value: "2"}, api.Reply{Found: true, Version: 8}, slices.Concat(last[:31], []api.Pair{pair("z", "2", 8)})},
		{"delete", ab, api.Command{Kind: 3, Key: "a"}, api.Reply{Found: true, Version: 3}, ab[1:]},
		{"delete of the last", ab[:1], api.Command{Kind: 3, Key: "a"}, api.Reply{Found: true, Version: 3}, nil},
		{"delete beside the next key", []api.Pair{pair("a", "1", 3), pair("a\x00", "2", 4)}, api.Command{Kind: 3, Key: "a"}, api.Reply{Found: true, Version: 3}, []api.Pair{pair("a\x00", "2", 4)}},
		{"delete of none", ab, api.Command{Kind: 3, Key: "c"}, api.Reply{}, ab},
		{"delete in nothing", nil, api.Command{Kind: 3, Key: "c"}, api.Reply{}, nil},
		{"swap", ab, api.Command{Kind: 4, Key: "a", Old: "1", Value: "2"}, api.Reply{Found: true, Value: "1", Version: 4}, []api.Pair{pair("a", "2", 4), ab[1]}},
		{"swap for the same", ab, api.Command{Kind: 4, Key: "a", Old: "1", Value: "1"}, api.Reply{Found: true, Value: "1", Version: 4}, []api.Pair{pair("a", "1", 4), ab[1]}},
		{"swap of an empty value", ab, api.Command{Kind: 4, Key: "b", Value: "2"}, api.Reply{Found: true, Version: 6}, []api.Pair{ab[0], pair("b", "2", 6)}},
		{"swap for an empty value", ab, api.Command{Kind: 4, Key: "a", Old: "1"}, api.Reply{Found: true, Value: "1", Version: 4}, []api.Pair{pair("a", "", 4), ab[1]}},
		{"swap of another value", ab, api.Command{Kind: 4, Key: "a", Old: "2", Value: "3"}, api.Reply{Value: "1", Version: 3}, ab},
		{"swap of another value for what is there", ab, api.Command{Kind: 4, Key: "a", Old: "2", Value: "1"}, api.Reply{Value: "1", Version: 3}, ab},
		{"swap of an empty value, where there is one", ab, api.Command{Kind: 4, Key: "a", Value: "3"}, api.Reply{Value: "1", Version: 3}, ab},
		{"swap of a value, where there is an empty one", ab, api.Command{Kind: 4, Key: "b", Old: "1", Value: "3"}, api.Reply{Version: 5}, ab},
		{"swap of a value that begins so", ab, api.Command{Kind: 4, Key: "a", Old: "1\x00", Value: "3"}, api.Reply{Value: "1", Version: 3}, ab},
		{"swap of none", ab, api.Command{Kind: 4, Key: "c", Old: "1", Value: "2"}, api.Reply{}, ab},
		{"swap of none, of an empty value", ab, api.Command{Kind: 4, Key: "c", Value: "2"}, api.Reply{}, ab},
		{"swap in nothing", nil, api.Command{Kind: 4, Key: "a", Value: "2"}, api.Reply{}, nil},
		{"swap where there is no room", last, api.Command{Kind: 4, Key: "z", Old: "1", Value: "2"}, api.Reply{Found: true, Value: "1", Version: 8}, slices.Concat(last[:31], []api.Pair{pair("z", "2", 8)})},
		{"swap of none where there is no room", last, api.Command{Kind: 4, Key: "y", Value: "2"}, api.Reply{}, last},
	}, ranges())
}

func ranges() []deed {
	ab := []api.Pair{pair("a", "1", 3), pair("b", "", 5)}
	return []deed{
		{"range", ab, api.Command{Kind: 5, Key: "a", End: "c"}, api.Reply{Pairs: ab}, ab},
		{"range of all", ab, api.Command{Kind: 5}, api.Reply{Pairs: ab}, ab},
		{"range up to below b", ab, api.Command{Kind: 5, End: "b"}, api.Reply{Pairs: ab[:1]}, ab},
		{"range from b on", ab, api.Command{Kind: 5, Key: "b"}, api.Reply{Pairs: ab[1:]}, ab},
		{"range from behind a on", ab, api.Command{Kind: 5, Key: "a\x00"}, api.Reply{Pairs: ab[1:]}, ab},
		{"range of no key", ab, api.Command{Kind: 5, Key: "b", End: "a"}, api.Reply{}, ab},
		{"range from a to a", ab, api.Command{Kind: 5, Key: "a", End: "a"}, api.Reply{}, ab},
		{"range of none", ab, api.Command{Kind: 5, Key: "c"}, api.Reply{}, ab},
		{"range in nothing", nil, api.Command{Kind: 5}, api.Reply{}, nil},
		{"range of eight", pairs(8), api.Command{Kind: 5}, api.Reply{Pairs: pairs(8)}, pairs(8)},
		{"range of nine", pairs(9), api.Command{Kind: 5}, api.Reply{Found: true, Pairs: pairs(8)}, pairs(9)},
		{"range of eight of nine", pairs(9), api.Command{Kind: 5, End: "k08"}, api.Reply{Pairs: pairs(8)}, pairs(9)},
		{"range of the other eight of nine", pairs(9), api.Command{Kind: 5, Key: "k01"}, api.Reply{Pairs: pairs(9)[1:]}, pairs(9)},
		{"range of all there can be", pairs(32), api.Command{Kind: 5}, api.Reply{Found: true, Pairs: pairs(8)}, pairs(32)},
		{"range of the last of all", pairs(32), api.Command{Kind: 5, Key: "k23"}, api.Reply{Found: true, Pairs: pairs(32)[23:31]}, pairs(32)},
	}
}

func TestApplyByKinds(t *testing.T) { // P13.2's table
	for _, d := range deeds() {
		for client := 1; client <= api.MaxOwner; client++ {
			for _, known := range []owners{{}, told()} {
				s := api.State{Pairs: d.have, Owners: known}
				d.c.Client, d.c.Seq = client, 10*client+1
				got, r := Apply(s, d.c)
				if want := noted(api.State{Pairs: d.becomes, Owners: known}, client, d.c.Seq, d.r); !equal(got, want) || !sameReply(r, d.r) {
					t.Errorf("%s of %d: Apply(%v, %v) = %v, %v; not %v, %v", d.what, client, s, d.c, got, r, want, d.r)
				}
				// Asked again it is told again, and done no more.
				if again, q := Apply(got, d.c); !equal(again, got) || !sameReply(q, d.r) {
					t.Errorf("%s of %d again: %v, %v", d.what, client, again, q)
				}
				d.c.Seq--
				if old, q := Apply(got, d.c); !equal(old, got) || !sameReply(q, api.Reply{Why: api.ErrOld}) {
					t.Errorf("%s of %d behind its number: %v, %v", d.what, client, old, q)
				}
			}
		}
	}
}

func TestFullIsNoted(t *testing.T) { // P13.2
	full := of(pairs(32)...)
	put := api.Command{Kind: api.KPut, Client: 1, Seq: 1, Key: "new", Value: "x"}
	s, r := Apply(full, put)
	if !sameReply(r, api.Reply{Why: api.ErrFull}) || !equal(s, noted(full, 1, 1, r)) {
		t.Fatalf("%v, %v", s, r)
	}
	// There is room again, but that number was answered.
	s, _ = Apply(s, api.Command{Kind: api.KDelete, Client: 2, Seq: 1, Key: "k00"})
	if next, r := Apply(s, put); !equal(next, s) || !sameReply(r, api.Reply{Why: api.ErrFull}) {
		t.Errorf("again: %v, %v", next, r)
	}
	put.Seq = 2
	if next, r := Apply(s, put); len(next.Pairs) != 32 || !sameReply(r, api.Reply{Version: 1}) {
		t.Errorf("asked anew: %v, %v", next, r)
	}
}

func TestApplyLooksNoFurther(t *testing.T) { // P13.2, R1: of states that aren't right too
	k := func(kind int) api.Command { return api.Command{Kind: kind, Client: 1, Seq: 1, Key: "b"} }
	// Keys that don't rise: b stands at the first place that isn't below it, if it is it.
	turned := of(pair("c", "1", 1), pair("b", "2", 2))
	for kind, want := range []api.Reply{
		api.KGet:    {},
		api.KPut:    {Version: 1},
		api.KDelete: {},
		api.KSwap:   {},
		api.KRange:  {Pairs: turned.Pairs},
	} {
		if kind == 0 {
			continue
		}
		if _, r := Apply(turned, k(kind)); !sameReply(r, want) {
			t.Errorf("%d where keys don't rise: %v", kind, r)
		}
	}
	// The version is one more, whatever it was.
	for _, version := range []int{0, -1, -5, 1 << 40, math.MaxInt, math.MinInt} {
		s := of(pair("b", "", version))
		next := version + 1
		if got, r := Apply(s, k(api.KPut)); !sameReply(r, api.Reply{Found: true, Version: next}) || got.Pairs[0].Version != next {
			t.Errorf("put behind %d: %v, %v", version, got, r)
		}
		if got, r := Apply(s, k(api.KSwap)); !sameReply(r, api.Reply{Found: true, Version: next}) || got.Pairs[0].Version != next {
			t.Errorf("swap behind %d: %v, %v", version, got, r)
		}
	}
	// More pairs than may be: none is put beside them, but those that are there change.
	s := of(pairs(40)...)
	if got, r := Apply(s, k(api.KPut)); !equal(got, noted(s, 1, 1, r)) || !sameReply(r, api.Reply{Why: api.ErrFull}) {
		t.Errorf("put beside 40: %v, %v", got, r)
	}
	if got, r := Apply(s, api.Command{Kind: api.KPut, Client: 1, Seq: 1, Key: "k39"}); len(got.Pairs) != 40 || !sameReply(r, api.Reply{Found: true, Version: 41}) {
		t.Errorf("put of one of 40: %v, %v", got, r)
	}
	// What a client was told last is told again as it stands.
	odd := api.Reply{Why: api.ErrDown, Value: strings.Repeat("v", 99), Version: -4, Pairs: pairs(40)}
	s = noted(rich(), 1, 1, odd)
	if got, r := Apply(s, k(api.KGet)); !equal(got, s) || !sameReply(r, odd) {
		t.Errorf("again of what isn't right: %v, %v", got, r)
	}
	s = noted(rich(), 1, -3, odd)
	if got, r := Apply(s, k(api.KGet)); !equal(got, noted(s, 1, 1, api.Reply{})) || !sameReply(r, api.Reply{}) {
		t.Errorf("behind a number below 0: %v, %v", got, r)
	}
}

func TestPlay(t *testing.T) { // P13.3
	for i, s := range []api.State{{}, rich(), wrongs()[0]} {
		if got, replies := Play(s); !equal(got, s) || len(replies) != 0 {
			t.Errorf("%d: Play of nothing = %v, %v", i, got, replies)
		}
	}
	l := []api.Command{
		{Kind: api.KPut, Client: 1, Seq: 1, Key: "a", Value: "1"},
		{},
		{Kind: api.KPut, Client: 1, Seq: 1, Key: "a", Value: "2"},
		{Kind: 9},
		{Kind: api.KPut, Client: 2, Seq: 7, Key: "b", Value: "3"},
		{Kind: api.KRange, Client: 3, Seq: 1},
		{Kind: api.KDelete, Client: 1, Seq: 2, Key: "a"},
		{Kind: api.KGet, Client: 2, Seq: 6, Key: "b"},
	}
	ab := []api.Pair{pair("a", "1", 1), pair("b", "3", 1)}
	replies := []api.Reply{{Version: 1}, {}, {Version: 1}, {Why: api.ErrArg}, {Version: 1}, {Pairs: ab}, {Found: true, Version: 1}, {Why: api.ErrOld}}
	states := []api.State{{}, noted(of(ab[0]), 1, 1, replies[0])}
	states = append(states, states[1], states[1], states[1], noted(api.State{Pairs: ab, Owners: states[1].Owners}, 2, 7, replies[4]))
	states = append(states, noted(states[5], 3, 1, replies[5]))
	states = append(states, noted(api.State{Pairs: ab[1:], Owners: states[6].Owners}, 1, 2, replies[6]))
	states = append(states, states[7])
	for n := range len(l) + 1 {
		if got, told := Play(api.State{}, l[:n]...); !equal(got, states[n]) || !sameReplies(told, replies[:n]) {
			t.Errorf("Play of %d = %v, %v; not %v", n, got, told, states[n])
		}
		// From where some are done the others go on.
		if got, told := Play(states[n], l[n:]...); !equal(got, states[len(l)]) || !sameReplies(told, replies[n:]) {
			t.Errorf("Play from %d on = %v, %v", n, got, told)
		}
	}
}

func TestRuns(t *testing.T) { // the chapter's runs
	s := api.State{}
	for i, c := range []struct {
		c api.Command
		r api.Reply
	}{
		{api.Command{Kind: api.KPut, Client: 1, Seq: 1, Key: "a", Value: "1"}, api.Reply{Version: 1}},
		{api.Command{Kind: api.KPut, Client: 1, Seq: 1, Key: "a", Value: "1"}, api.Reply{Version: 1}},
		{api.Command{Kind: api.KGet, Client: 2, Seq: 1, Key: "a"}, api.Reply{Found: true, Value: "1", Version: 1}},
		{api.Command{Kind: api.KPut, Client: 1, Seq: 0, Key: "b", Value: "1"}, api.Reply{Why: api.ErrArg}},
		{api.Command{Kind: api.KSwap, Client: 1, Seq: 2, Key: "a", Old: "1", Value: "2"}, api.Reply{Found: true, Value: "1", Version: 2}},
		{api.Command{Kind: api.KSwap, Client: 1, Seq: 3, Key: "a", Old: "1", Value: "3"}, api.Reply{Value: "2", Version: 2}},
		{api.Command{Kind: api.KDelete, Client: 1, Seq: 4, Key: "a"}, api.Reply{Found: true, Version: 2}},
		{api.Command{Kind: api.KPut, Client: 1, Seq: 2, Key: "a", Value: "9"}, api.Reply{Why: api.ErrOld}},
	} {
		next, r := Apply(s, c.c)
		if !sameReply(r, c.r) {
			t.Errorf("%d: %v is answered %v; not %v", i, c.c, r, c.r)
		}
		s = next
	}
	if len(s.Pairs) != 0 {
		t.Errorf("behind the runs: %v", s.Pairs)
	}
}
