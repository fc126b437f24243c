package dedup

import (
	"math"
	"strings"
	"testing"

	"concord/api"
)

func TestTheNumbersAreTheChapters(t *testing.T) { // the tables are written with these
	if New != 1 || Again != 2 || Old != 3 {
		t.Fatal("New, Again and Old have other numbers")
	}
	if api.MaxOwner != 8 || api.MaxSeq != 1<<40 || api.MaxValue != 64 || api.MaxRange != 8 || api.ErrFull != 7 {
		t.Fatal("the limits have other numbers")
	}
}

// replies are some with whether they are right.
func replies() []struct {
	r    api.Reply
	want bool
} {
	v64 := strings.Repeat("v", 64)
	k16 := strings.Repeat("k", 16)
	of := func(l ...api.Pair) api.Reply { return api.Reply{Pairs: l} }
	return []struct {
		r    api.Reply
		want bool
	}{
		{api.Reply{}, true},
		{found(), true},
		{api.Reply{Found: true}, true},
		{api.Reply{Why: api.ErrFull}, true},
		{api.Reply{Why: api.ErrFull, Found: true, Value: "v", Version: 1, Pairs: pairs(1)}, true}, // nothing asks that fields go together
		{api.Reply{Why: api.ErrArg}, false},
		{api.Reply{Why: api.ErrLong}, false},
		{api.Reply{Why: api.ErrShort}, false},
		{api.Reply{Why: api.ErrForm}, false},
		{api.Reply{Why: api.ErrTail}, false},
		{api.Reply{Why: api.ErrSum}, false},
		{api.Reply{Why: api.ErrNone}, false},
		{api.Reply{Why: api.ErrOld}, false},
		{api.Reply{Why: api.ErrDown}, false},
		{api.Reply{Why: api.ErrPath}, false},
		{api.Reply{Why: 12}, false},
		{api.Reply{Why: -1}, false},
		{api.Reply{Why: -7}, false},
		{api.Reply{Why: math.MinInt}, false},
		{api.Reply{Why: math.MaxInt}, false},
		{api.Reply{Value: v64}, true},
		{api.Reply{Value: v64 + "v"}, false},
		{api.Reply{Value: strings.Repeat("é", 32)}, true},
		{api.Reply{Value: strings.Repeat("é", 33)}, false}, // bytes count, not letters
		{api.Reply{Value: "\x00\xff"}, true},
		{api.Reply{Version: 1}, true},
		{api.Reply{Version: math.MaxInt}, true},
		{api.Reply{Version: -1}, false},
		{api.Reply{Version: math.MinInt}, false},
		{api.Reply{Pairs: []api.Pair{}}, true},
		{api.Reply{Pairs: pairs(1)}, true},
		{api.Reply{Pairs: pairs(7)}, true},
		{api.Reply{Pairs: pairs(8)}, true},
		{api.Reply{Pairs: pairs(9)}, false},
		{api.Reply{Pairs: pairs(32)}, false},
		{api.Reply{Pairs: pairs(33)}, false},
		// The pairs are right as kv has it.
		{of(api.Pair{Key: k16, Value: v64, Version: 1}), true},
		{of(api.Pair{}), false},
		{of(api.Pair{Key: "", Value: "v", Version: 1}), false},
		{of(api.Pair{Key: k16 + "k", Value: "v", Version: 1}), false},
		{of(api.Pair{Key: "k", Value: v64 + "v", Version: 1}), false},
		{of(api.Pair{Key: "k", Value: "v"}), false},
		{of(api.Pair{Key: "k", Value: "v", Version: -1}), false},
		{of(api.Pair{Key: "a", Version: 1}, api.Pair{Key: "b", Version: 1}), true},
		{of(api.Pair{Key: "b", Version: 1}, api.Pair{Key: "a", Version: 1}), false},
		{of(api.Pair{Key: "a", Version: 1}, api.Pair{Key: "a", Version: 1}), false},
	}
}

func TestRightByReplies(t *testing.T) { // P12.1: at each place, among others that are right
	for i, c := range replies() {
		for k := range api.MaxOwner {
			l := full()
			l[k].Reply = c.r
			if got := Right(l); got != c.want {
				t.Errorf("%d at %d: Right with %v = %t", i, k, c.r, got)
			}
			if got := Right(only(k+1, api.Owner{Seq: 1, Reply: c.r})); got != c.want {
				t.Errorf("%d at %d alone: Right with %v = %t", i, k, c.r, got)
			}
		}
	}
}

func TestRightBySeqs(t *testing.T) { // P12.1
	for i, c := range []struct {
		o    api.Owner
		want bool
	}{
		{api.Owner{Seq: 1}, true},
		{api.Owner{Seq: 1, Reply: found()}, true},
		{api.Owner{Seq: 1 << 40}, true},
		{api.Owner{Seq: 1 << 40, Reply: found()}, true},
		{api.Owner{Seq: 1<<40 - 1, Reply: found()}, true},
		{api.Owner{Seq: 1<<40 + 1}, false},
		{api.Owner{Seq: 1<<40 + 1, Reply: found()}, false},
		{api.Owner{Seq: math.MaxInt}, false},
		{api.Owner{Seq: -1}, false},
		{api.Owner{Seq: -1, Reply: found()}, false},
		{api.Owner{Seq: -1 << 40}, false},
		{api.Owner{Seq: math.MinInt}, false},
		// Of 0 the reply is zero, in each field.
		{api.Owner{}, true},
		{api.Owner{Reply: api.Reply{Pairs: []api.Pair{}}}, true},
		{api.Owner{Reply: api.Reply{Pairs: make([]api.Pair, 0, 9)}}, true},
		{api.Owner{Reply: api.Reply{Pairs: pairs(3)[:0]}}, true},
		{api.Owner{Reply: api.Reply{Why: api.ErrFull}}, false},
		{api.Owner{Reply: api.Reply{Why: api.ErrArg}}, false},
		{api.Owner{Reply: api.Reply{Found: true}}, false},
		{api.Owner{Reply: api.Reply{Value: "v"}}, false},
		{api.Owner{Reply: api.Reply{Value: "\x00"}}, false},
		{api.Owner{Reply: api.Reply{Version: 1}}, false},
		{api.Owner{Reply: api.Reply{Version: -1}}, false},
		{api.Owner{Reply: api.Reply{Pairs: pairs(1)}}, false},
		{api.Owner{Reply: api.Reply{Pairs: make([]api.Pair, 1)}}, false},
		{api.Owner{Reply: found()}, false},
	} {
		for k := range api.MaxOwner {
			l := full()
			l[k] = c.o
			if got := Right(l); got != c.want {
				t.Errorf("%d at %d: Right with %v = %t", i, k, c.o, got)
			}
			if got := Right(only(k+1, c.o)); got != c.want {
				t.Errorf("%d at %d alone: Right with %v = %t", i, k, c.o, got)
			}
		}
	}
	if !Right(owners{}) || !Right(full()) {
		t.Error("nothing, or what was told to all, isn't right")
	}
}

func TestRightAsksNothingBetweenClients(t *testing.T) { // P12.1: each one alone
	o := api.Owner{Seq: 4, Reply: found()}
	l := owners{}
	for k := range l {
		l[k] = o
	}
	if !Right(l) {
		t.Error("clients that are told the same aren't right")
	}
}

func TestLookGoesByTheSeq(t *testing.T) { // P12.2
	for i, c := range []struct {
		held, seq, want int
	}{
		{5, 6, New},
		{5, 5, Again},
		{5, 4, Old},
		{5, 7, New}, // not the next one alone
		{5, 1, Old},
		{5, 0, Old},
		{5, -1, Old},
		{5, -5, Old},
		{5, math.MinInt, Old},
		{5, math.MaxInt, New},
		{5, 1 << 40, New},
		{5, 1<<40 + 1, New}, // the number isn't asked
		{5, 5 + 1<<32, New},
		{5, 5 - 1<<32, Old},
		{0, 1, New},
		{0, 0, Again},
		{0, -1, Old},
		{1 << 40, 1 << 40, Again},
		{1 << 40, 1<<40 + 1, New},
		{1 << 40, 1<<40 - 1, Old},
		// Nor is what is held.
		{-5, -4, New},
		{-5, -5, Again},
		{-5, -6, Old},
		{-5, 5, New},
		{math.MaxInt, math.MaxInt, Again},
		{math.MaxInt, math.MinInt, Old}, // their difference wraps round
		{math.MaxInt, -1, Old},
		{math.MinInt, math.MinInt, Again},
		{math.MinInt, math.MaxInt, New},
		{math.MinInt, 1, New},
	} {
		for client := 1; client <= api.MaxOwner; client++ {
			l := full()
			l[client-1] = api.Owner{Seq: c.held, Reply: found()}
			var told api.Reply
			if c.want == Again {
				told = found()
			}
			if got, r := Look(l, client, c.seq); got != c.want || !sameReply(r, told) {
				t.Errorf("%d: Look of %d where client %d is at %d = %d, %v", i, c.seq, client, c.held, got, r)
			}
		}
	}
}

func TestLookGoesByTheClient(t *testing.T) { // P12.2
	l := full()
	for client := 1; client <= 8; client++ {
		if got, r := Look(l, client, 10*client); got != Again || !sameReply(r, l[client-1].Reply) {
			t.Errorf("Look(%d, its seq) = %d, %v", client, got, r)
		}
	}
	for _, client := range []int{0, 9, -1, 10, 16, -8, 1 << 32, 1<<32 + 1, 1 - 1<<32, math.MinInt, math.MaxInt, math.MinInt + 1} {
		for _, seq := range []int{0, 1, 10, 20, 80, 90, -1, math.MinInt, math.MaxInt} {
			if got, r := Look(l, client, seq); got != 0 || !sameReply(r, api.Reply{}) {
				t.Errorf("Look(%d, %d) = %d, %v", client, seq, got, r)
			}
			if got, r := Look(owners{}, client, seq); got != 0 || !sameReply(r, api.Reply{}) {
				t.Errorf("Look(nothing, %d, %d) = %d, %v", client, seq, got, r)
			}
		}
	}
}

func TestLookTellsTheReplyAsItStands(t *testing.T) { // P12.2: whatever stands there
	for i, c := range replies() {
		l := full()
		l[2] = api.Owner{Seq: 5, Reply: c.r}
		if got, r := Look(l, 3, 5); got != Again || !sameReply(r, c.r) {
			t.Errorf("%d: Look = %d, %v; not %v", i, got, r, c.r)
		}
		for _, seq := range []int{4, 6} {
			if _, r := Look(l, 3, seq); !sameReply(r, api.Reply{}) {
				t.Errorf("%d: beside a number that isn't its last: %v", i, r)
			}
		}
		l[2].Seq = 0
		if got, r := Look(l, 3, 0); got != Again || !sameReply(r, c.r) {
			t.Errorf("%d: Look of 0 = %d, %v; not %v", i, got, r, c.r)
		}
	}
}

func TestNoteStandsAtTheClient(t *testing.T) { // P12.3
	for i, c := range replies() {
		// Neither the seq nor the reply is asked, nor is what stood there.
		for _, seq := range []int{5, 1, 0, 10, 45, 80, -1, 1 << 40, 1<<40 + 1, math.MinInt, math.MaxInt} {
			for client := 1; client <= 8; client++ {
				want := full()
				want[client-1] = api.Owner{Seq: seq, Reply: c.r}
				if got := Note(full(), client, seq, c.r); !same(got, want) {
					t.Errorf("%d: Note(%d, %d, %v) = %v", i, client, seq, c.r, got)
				}
				if got := Note(owners{}, client, seq, c.r); !same(got, only(client, want[client-1])) {
					t.Errorf("%d: Note(nothing, %d, %d, %v) = %v", i, client, seq, c.r, got)
				}
			}
		}
	}
}

func TestNoteOfNoClient(t *testing.T) { // P12.3
	for _, client := range []int{0, 9, -1, 10, 16, -8, 1 << 32, 1<<32 + 1, 1 - 1<<32, math.MinInt, math.MaxInt} {
		if got := Note(full(), client, 99, found()); !same(got, full()) {
			t.Errorf("Note(%d) = %v", client, got)
		}
		if got := Note(owners{}, client, 99, found()); !same(got, owners{}) {
			t.Errorf("Note(nothing, %d) = %v", client, got)
		}
	}
}

func TestNoteLeavesNothingOfTheOldReply(t *testing.T) { // P12.3
	l := Note(Note(owners{}, 4, 5, found()), 4, 6, api.Reply{})
	if !same(l, only(4, api.Owner{Seq: 6})) {
		t.Errorf("behind an empty reply: %v", l)
	}
	l = Note(Note(owners{}, 4, 5, found()), 4, 0, api.Reply{})
	if !same(l, owners{}) || !Right(l) {
		t.Errorf("behind nothing: %v", l)
	}
}

func TestRuns(t *testing.T) { // the chapter's runs
	if what, r := Look(owners{}, 1, 1); what != New || !sameReply(r, api.Reply{}) {
		t.Errorf("Look(nothing, 1, 1) = %d, %v", what, r)
	}
	if what, r := Look(owners{}, 9, 1); what != 0 || !sameReply(r, api.Reply{}) {
		t.Errorf("Look(nothing, 9, 1) = %d, %v", what, r)
	}
	l := Note(owners{}, 1, 5, found())
	if what, r := Look(l, 9, 1); what != 0 || !sameReply(r, api.Reply{}) {
		t.Errorf("Look(9, 1) = %d, %v", what, r)
	}
	if what, r := Look(l, 1, 5); what != Again || !sameReply(r, found()) {
		t.Errorf("Look(1, 5) = %d, %v", what, r)
	}
	if what, r := Look(l, 1, 4); what != Old || !sameReply(r, api.Reply{}) {
		t.Errorf("Look(1, 4) = %d, %v", what, r)
	}
	if what, r := Look(l, 1, 6); what != New || !sameReply(r, api.Reply{}) {
		t.Errorf("Look(1, 6) = %d, %v", what, r)
	}
	if what, r := Look(l, 2, 5); what != New || !sameReply(r, api.Reply{}) {
		t.Errorf("Look(2, 5) = %d, %v", what, r)
	}
}
