package state

import (
	"slices"
	"strings"
	"testing"

	"concord/api"
)

// machine is what a replica's state comes to, by its words: values and how often they were put, by keys; and what each
// client was told last.
type machine struct {
	held map[string]api.Pair
	told map[int]api.Owner
}

func newMachine() *machine {
	return &machine{held: map[string]api.Pair{}, told: map[int]api.Owner{}}
}

// state is the machine as the package keeps it.
func (m *machine) state() api.State {
	s := of(m.between("", "")...)
	for client, o := range m.told {
		s.Owners[client-1] = o
	}
	return s
}

// between are the pairs from lo on that are below hi, an empty hi being no bound.
func (m *machine) between(lo, hi string) []api.Pair {
	var l []api.Pair
	for key, p := range m.held {
		if key >= lo && (hi == "" || key < hi) {
			l = append(l, p)
		}
	}
	slices.SortFunc(l, func(a, b api.Pair) int { return strings.Compare(a.Key, b.Key) })
	return l
}

// may is P5.1.
func may(c api.Command) bool {
	only := api.Command{Kind: c.Kind, Client: c.Client, Seq: c.Seq, Key: c.Key}
	switch c.Kind {
	case 0:
		return c == api.Command{}
	case 1, 3:
	case 2:
		only.Value = c.Value
	case 4:
		only.Old, only.Value = c.Old, c.Value
	case 5:
		only.End = c.End
	default:
		return false
	}
	return c == only && c.Client >= 1 && c.Client <= 8 && c.Seq >= 1 && c.Seq <= 1<<40 &&
		len(c.Key) <= 16 && len(c.End) <= 16 && len(c.Old) <= 64 && len(c.Value) <= 64 && (c.Key != "" || c.Kind == 5)
}

// apply is P13.2.
func (m *machine) apply(c api.Command) api.Reply {
	switch last := m.told[c.Client]; {
	case c == api.Command{}:
		return api.Reply{}
	case !may(c):
		return api.Reply{Why: api.ErrArg}
	case c.Seq == last.Seq:
		return last.Reply
	case c.Seq < last.Seq:
		return api.Reply{Why: api.ErrOld}
	}
	r := m.act(c)
	m.told[c.Client] = api.Owner{Seq: c.Seq, Reply: r}
	return r
}

func (m *machine) act(c api.Command) api.Reply {
	p, is := m.held[c.Key]
	switch c.Kind {
	case 1:
		return api.Reply{Found: is, Value: p.Value, Version: p.Version}
	case 2:
		if !is && len(m.held) == 32 {
			return api.Reply{Why: api.ErrFull}
		}
		m.held[c.Key] = pair(c.Key, c.Value, p.Version+1)
		return api.Reply{Found: is, Version: p.Version + 1}
	case 3:
		delete(m.held, c.Key)
		return api.Reply{Found: is, Version: p.Version}
	case 4:
		if !is || p.Value != c.Old {
			return api.Reply{Value: p.Value, Version: p.Version}
		}
		m.held[c.Key] = pair(c.Key, c.Value, p.Version+1)
		return api.Reply{Found: true, Value: p.Value, Version: p.Version + 1}
	}
	l := m.between(c.Key, c.End)
	return api.Reply{Found: len(l) > 8, Pairs: l[:min(len(l), 8)]}
}

// next is a command whose client's number rises for the most part, of a few keys or of more than there is room for.
func (c *chance) next(m *machine, keys int) api.Command {
	d := c.command()
	if c.below(4) > 0 && d.Client >= 1 && d.Client <= 8 {
		d.Seq = m.told[d.Client].Seq + 1
	}
	if d.Key != "" && c.below(3) > 0 {
		d.Key = string([]byte{'k', byte(c.below(keys))})
	}
	return d
}

func TestScripts(t *testing.T) { // P13.1 to P13.5
	c := chance(13)
	whys := map[api.Errno]int{}
	for script := range 200 {
		m, s := newMachine(), api.State{}
		keys := one(&c, 3, 12, 60)
		var l []api.Command
		var replies []api.Reply
		for range 150 {
			d := c.next(m, keys)
			if script%2 == 1 && c.below(3) > 0 { // many pairs
				d.Kind, d.End, d.Old = api.KPut, "", ""
			}
			want := m.apply(d)
			next, r := Apply(s, d)
			if !equal(next, m.state()) || !sameReply(r, want) {
				t.Fatalf("Apply(%v, %v) = %v, %v; not %v, %v", s, d, next, r, m.state(), want)
			}
			if !Right(next) || !Same(next, m.state()) || Same(next, s) != equal(next, s) {
				t.Fatalf("%v: right: %t, as the machine: %t", next, Right(next), Same(next, m.state()))
			}
			if got, why := Get(Put(next)); why != api.OK || !equal(got, next) {
				t.Fatalf("Get(Put(%v)) = %v, %d", next, got, why)
			}
			whys[r.Why]++
			s, l, replies = next, append(l, d), append(replies, r)
		}
		if got, told := Play(api.State{}, l...); !equal(got, s) || !sameReplies(told, replies) {
			t.Fatalf("Play(%v) = %v, %v; not %v, %v", l, got, told, s, replies)
		}
	}
	for _, why := range []api.Errno{api.OK, api.ErrArg, api.ErrFull, api.ErrOld} {
		if whys[why] < 100 {
			t.Errorf("%d is told %d times only", why, whys[why])
		}
	}
}

func TestOnce(t *testing.T) { // P13.5: a client's number does something once
	c := chance(131)
	for range 200 {
		m, s := newMachine(), api.State{}
		for range 60 {
			d := c.next(m, 40)
			r := m.apply(d)
			s, _ = Apply(s, d)
			if r.Why != api.OK && r.Why != api.ErrFull || d == (api.Command{}) {
				continue
			}
			// Whatever is asked under that number, and however often: nothing happens, and the reply is the old one.
			for i, e := range kinds(d.Client, d.Seq) {
				if got, q := Apply(s, e); !equal(got, s) || !sameReply(q, r) {
					t.Fatalf("%d under the number of %v: %v, %v", i, d, got, q)
				}
			}
			if got, told := Play(s, d, d, d); !equal(got, s) || !sameReplies(told, []api.Reply{r, r, r}) {
				t.Fatalf("%v thrice: %v, %v", d, got, told)
			}
		}
	}
}

func TestReadsChangeNoPairs(t *testing.T) { // P13.5
	c := chance(132)
	for range 20000 {
		s, d := c.state(), c.command()
		got, r := Apply(s, d)
		reads := d.Kind == api.KGet || d.Kind == api.KRange
		if reads && !slices.Equal(got.Pairs, s.Pairs) {
			t.Fatalf("%v changes %v to %v", d, s.Pairs, got.Pairs)
		}
		if r.Why != api.OK && !slices.Equal(got.Pairs, s.Pairs) {
			t.Fatalf("%v, refused with %d, changes %v to %v", d, r.Why, s.Pairs, got.Pairs)
		}
		if !Right(got) {
			t.Fatalf("Apply(%v, %v) = %v, which isn't right", s, d, got)
		}
	}
}

func TestRightBySenselessStates(t *testing.T) { // P13.1, P13.4
	c := chance(133)
	right := 0
	for range 20000 {
		s := c.state()
		for range c.below(3) {
			o := &s.Owners[c.below(8)]
			switch c.below(9) {
			case 0:
				o.Seq = one(&c, -1, 0, 1, 1<<40, 1<<40+1)
			case 1:
				o.Reply.Why = api.Errno(c.below(12))
			case 2:
				o.Reply.Value = strings.Repeat("v", 60+c.below(9))
			case 3:
				o.Reply.Version = one(&c, -1, 0, 1)
			case 4:
				o.Reply.Pairs = pairs(6 + c.below(5))
			case 5:
				o.Reply.Pairs = slices.Concat(pairs(1), pairs(c.below(3)))
			case 6:
				s.Pairs = slices.Concat(s.Pairs, []api.Pair{pair(one(&c, "", "a", "l", strings.Repeat("l", 17)), "", c.below(3))})
			case 7:
				s.Pairs = pairs(30 + c.below(5))
			}
		}
		want := isRight(s)
		b := Put(s)
		if Right(s) != want || (len(b) > 0) != want || want && string(b) != string(bytesOf(s)) {
			t.Fatalf("Right(%v) = %t, Put % x", s, Right(s), b)
		}
		if want {
			right++
		}
	}
	if right < 4000 || right > 16000 {
		t.Errorf("%d of 20000 states are right", right)
	}
}

func TestMemoryOfApply(t *testing.T) { // R2, R5
	var l []api.Command
	for _, seq := range []int{29, 30, 31} {
		l = append(l, kinds(3, seq)...)
	}
	l = append(l, api.Command{}, api.Command{Kind: 9},
		api.Command{Kind: api.KGet, Client: 3, Seq: 31, Key: "none"},
		api.Command{Kind: api.KDelete, Client: 3, Seq: 31, Key: "none"},
		api.Command{Kind: api.KSwap, Client: 3, Seq: 31, Key: "none"},
		api.Command{Kind: api.KSwap, Client: 3, Seq: 31, Key: "k01"})
	for _, n := range []int{0, 8, 12, 32} {
		plain := api.State{Pairs: pairs(n), Owners: told()}
		for _, c := range l {
			memoryOf(t, plain, c)
		}
	}
}

// memoryOf asks what Apply's answer shares with what it was given, with another answer, and within itself.
func memoryOf(t *testing.T, plain api.State, c api.Command) {
	t.Helper()
	want, reply := Apply(plain, c)
	want.Pairs = slices.Clone(want.Pairs)
	for k := range want.Owners {
		want.Owners[k].Reply.Pairs = slices.Clone(want.Owners[k].Reply.Pairs)
	}
	reply.Pairs = slices.Clone(reply.Pairs)
	s, wholes := roomy(plain)
	before := deep(wholes)
	got, r := Apply(s, c)
	again, q := Apply(s, c)
	if !equal(got, want) || !sameReply(r, reply) {
		t.Errorf("Apply(%v) with room behind the lists = %v, %v", c, got, r)
	}
	eachApart(t, "Apply", lists(got, r))
	if !sameLists(wholes, before) {
		t.Errorf("Apply(%v): the answer shares memory with what is given, or changes it", c)
	}
	for _, w := range wholes {
		scribble(w)
	}
	if !equal(again, want) || !sameReply(q, reply) {
		t.Errorf("Apply(%v): the answer shares memory with what is given, or with another one", c)
	}
	eachApart(t, "Apply", lists(again, q))
}

func TestMemoryOfPlay(t *testing.T) { // R2, R5
	l := []api.Command{
		{Kind: api.KRange, Client: 1, Seq: 11}, {Kind: api.KRange, Client: 1, Seq: 11}, {},
		{Kind: api.KRange, Client: 2, Seq: 20}, {Kind: api.KPut, Client: 4, Seq: 41, Key: "a", Value: "x"}, {Kind: api.KRange, Client: 4, Seq: 42},
	}
	for n := range len(l) + 1 {
		want, replies := Play(rich(), l[:n]...)
		wantLists := deep(lists(want, replies...))
		s, wholes := roomy(rich())
		before := deep(wholes)
		given := slices.Concat(l[:n], []api.Command{{Kind: 2, Client: 5, Seq: 99, Key: "strange"}})
		got, told := Play(s, given[:n]...)
		again, others := Play(s, given[:n]...)
		if !sameLists(lists(got, told...), wantLists) || !slices.Equal(given[:n], l[:n]) {
			t.Errorf("Play of %d with room behind the lists = %v, %v", n, got, told)
		}
		eachApart(t, "Play", lists(got, told...))
		if !sameLists(wholes, before) {
			t.Errorf("Play of %d: the answer shares memory with what is given, or changes it", n)
		}
		for _, w := range wholes {
			scribble(w)
		}
		for k := range told[:cap(told)] {
			told[:cap(told)][k] = api.Reply{Value: "scribbled"}
		}
		if !sameLists(lists(again, others...), wantLists) {
			t.Errorf("Play of %d: the answer shares memory with what is given, or with another one", n)
		}
	}
}

func TestTheOthersChangeNothing(t *testing.T) { // R2, R5
	s, wholes := roomy(rich())
	before := deep(wholes)
	other, others := roomy(rich())
	if !Right(s) || !Same(s, other) || !Same(s, s) {
		t.Error("what stands in the spare room is read")
	}
	if !sameLists(wholes, before) || !sameLists(others, before) {
		t.Error("Right or Same changes what it is given")
	}
}

func TestStateIsAValue(t *testing.T) { // the Ways
	s := rich()
	for _, c := range kinds(1, 11) {
		Apply(s, c)
		Play(s, c, c)
		if !equal(s, rich()) {
			t.Fatalf("%v changes the state that is handed in", c)
		}
	}
	was, _ := Apply(s, kinds(1, 11)[1])
	then, _ := Apply(was, kinds(1, 12)[3])
	if !equal(s, rich()) || was.Pairs[0].Value != "x" || then.Pairs[0].Key != "k01" {
		t.Error("a later state changes an older one")
	}
}

func TestLongOnes(t *testing.T) { // R1
	long := slices.Repeat(pairs(40), 2000)
	s := noted(api.State{Pairs: long}, 2, 1, api.Reply{Pairs: long})
	if Right(s) || len(Put(s)) != 0 || !Same(s, s) {
		t.Error("a long state is right, or isn't itself")
	}
	for _, c := range slices.Concat(kinds(1, 1), kinds(2, 1), wrongCommands()[:3]) {
		if got, r := Apply(s, c); len(got.Pairs) < len(long)-1 || c.Client == 2 && len(r.Pairs) != len(long) {
			t.Errorf("%v: %d pairs, %d in the reply", c, len(got.Pairs), len(r.Pairs))
		}
	}
	far := strings.Repeat("k", 1<<20)
	for _, c := range []api.Command{{Kind: 1, Client: 1, Seq: 1, Key: far}, {Kind: 2, Client: 1, Seq: 1, Key: "a", Value: far}, {Kind: 5, Client: 1, Seq: 1, End: far}} {
		if got, r := Apply(rich(), c); !equal(got, rich()) || r.Why != api.ErrArg {
			t.Errorf("a long text: %v, %d", got, r.Why)
		}
	}
	if _, why := Get(make([]byte, 1<<22)); why != api.ErrTail {
		t.Errorf("Get of many bytes = %d", why)
	}
	if _, why := Get(slices.Repeat([]byte{0xff}, 1<<22)); why != api.ErrForm {
		t.Errorf("Get of many bytes = %d", why)
	}
	l := make([]api.Command, 20000)
	for k := range l {
		l[k] = api.Command{Kind: api.KPut, Client: 1 + k%8, Seq: 1 + k/8, Key: "a"}
	}
	if got, replies := Play(api.State{}, l...); len(replies) != len(l) || got.Pairs[0].Version != len(l) {
		t.Errorf("Play of many = %v", got)
	}
}
