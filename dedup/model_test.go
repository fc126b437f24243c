package dedup

import (
	"slices"
	"testing"

	"concord/api"
)

// told is what clients were told last, by its words alone: nothing stands there of whom nothing was told.
type told map[int]api.Owner

func (m told) list() owners {
	var l owners
	for client, o := range m {
		l[client-1] = o
	}
	return l
}

// toldOf is what clients were told last, taken from l.
func toldOf(l owners) told {
	m := told{}
	for k, o := range l {
		m[k+1] = o
	}
	return m
}

// look is P12.2.
func (m told) look(client, seq int) (int, api.Reply) {
	if client < 1 || client > 8 {
		return 0, api.Reply{}
	}
	if o := m[client]; seq == o.Seq {
		return 2, o.Reply
	} else if seq < o.Seq {
		return 3, api.Reply{}
	}
	return 1, api.Reply{}
}

func TestScripts(t *testing.T) { // P12.1 to P12.4
	c := chance(12)
	for script := range 300 {
		model, l := told{}, owners{}
		for range 100 {
			// Both kinds of numbers go past their ends; in one of three scripts they rise, as a client's do.
			client, seq := c.below(11)-1, c.below(9)-2
			if script%3 == 0 {
				seq = model[client].Seq + 1
			}
			r := c.reply(script%2 == 1)
			next := Note(l, client, seq, r)
			if client >= 1 && client <= 8 {
				model[client] = api.Owner{Seq: seq, Reply: r}
				if what, got := Look(next, client, seq); what != Again || !sameReply(got, r) {
					t.Fatalf("Look of what was noted, (%d, %d, %v), = %d, %v", client, seq, r, what, got)
				}
			}
			l = next
			if want := model.list(); !same(l, want) || Right(l) != rightOwners(want) {
				t.Fatalf("%v, right: %t; not %v", l, Right(l), want)
			}
			client, seq = c.below(11)-1, c.below(9)-2
			want, reply := model.look(client, seq)
			if what, got := Look(l, client, seq); what != want || !sameReply(got, reply) {
				t.Fatalf("Look(%v, %d, %d) = %d, %v; not %d, %v", l, client, seq, what, got, want, reply)
			}
		}
	}
}

func TestRightStaysRight(t *testing.T) { // P12.1, P12.3: of right replies with numbers that rise
	c := chance(13)
	l := owners{}
	for range 2000 {
		client := 1 + c.below(8)
		l = Note(l, client, l[client-1].Seq+1+c.below(3), c.reply(false))
		if !Right(l) {
			t.Fatalf("%v isn't right", l)
		}
	}
}

func TestRightBySenselessLists(t *testing.T) { // P12.1
	c := chance(14)
	right := 0
	for range 50000 {
		var l owners
		for k := range l {
			l[k] = api.Owner{Seq: one(&c, 1, 2, 3, 1<<40-1, 1<<40), Reply: c.reply(true)}
			switch c.below(40) {
			case 0:
				l[k].Seq = one(&c, 0, -1, 1<<40+1)
			case 1, 2, 3:
				l[k] = api.Owner{}
			}
		}
		want := rightOwners(l)
		if Right(l) != want {
			t.Fatalf("Right(%v) = %t", l, !want)
		}
		if want {
			right++
		}
	}
	if right < 5000 || right > 45000 {
		t.Errorf("%d of 50000 lists are right", right)
	}
}

func TestOtherOwnersStay(t *testing.T) { // P12.4
	for client := 1; client <= 8; client++ {
		for _, seq := range []int{-1, 0, 10 * client, 10*client + 1, 1 << 40} {
			l := Note(full(), client, seq, found())
			if what, r := Look(l, client, seq); what != Again || !sameReply(r, found()) {
				t.Errorf("Look of what was noted, (%d, %d), = %d, %v", client, seq, what, r)
			}
			for other := 1; other <= 8; other++ {
				if other == client {
					continue
				}
				if what, r := Look(l, other, 10*other); what != Again || !sameReply(r, full()[other-1].Reply) {
					t.Errorf("behind a Note of %d: Look of %d = %d, %v", client, other, what, r)
				}
			}
		}
	}
}

func TestNoteAnswersAnotherList(t *testing.T) { // the Ways: an array is a value
	l := full()
	Note(l, 3, 99, found())
	if !same(l, full()) {
		t.Errorf("Note changes what it is given: %v", l)
	}
	was := Note(l, 3, 31, found())
	Note(was, 3, 32, api.Reply{})
	if what, r := Look(was, 3, 31); what != Again || !sameReply(r, found()) {
		t.Errorf("a later Note changes an older list: %d, %v", what, r)
	}
}

func TestMemoryOfNote(t *testing.T) { // R2, R5
	for client := 0; client <= 9; client++ {
		want := full()
		if client >= 1 && client <= 8 {
			want[client-1] = api.Owner{Seq: 99, Reply: found()}
		}
		l, wholes := roomy(full())
		r := found()
		inner, whole := within(r.Pairs)
		r.Pairs = inner
		wholes = append(wholes, whole)
		before := deep(wholes)
		got, again := Note(l, client, 99, r), Note(l, client, 99, r)
		if !same(got, want) {
			t.Errorf("Note of %d = %v", client, got)
		}
		eachApart(t, "Note", got, want)
		if !sameLists(wholes, before) {
			t.Errorf("Note of %d: the answer shares memory with what is given, or changes it: %v", client, wholes)
		}
		if !same(again, want) {
			t.Errorf("Note of %d: two answers share memory", client)
		}
		for _, w := range wholes {
			scribble(w)
		}
		if !same(again, want) {
			t.Errorf("Note of %d: the answer shares memory with what is given: %v", client, again)
		}
	}
}

func TestNoteOfOneListAtAllPlaces(t *testing.T) { // R2: no two lists of one answer share memory
	shared := pairs(5)
	var l, want owners
	for k := range l {
		l[k] = api.Owner{Seq: k + 1, Reply: api.Reply{Pairs: shared[:k%6]}}
		want[k] = api.Owner{Seq: k + 1, Reply: api.Reply{Pairs: pairs(k % 6)}}
	}
	for client := 0; client <= 9; client++ {
		noted := want
		if client >= 1 && client <= 8 {
			noted[client-1] = api.Owner{Seq: 50, Reply: api.Reply{Pairs: pairs(4)}}
		}
		got := Note(l, client, 50, api.Reply{Pairs: shared[:4]})
		if !same(got, noted) {
			t.Errorf("Note of %d = %v", client, got)
		}
		eachApart(t, "Note", got, noted)
		if !slices.Equal(shared, pairs(5)) {
			t.Fatalf("Note of %d changes what it is given, or shares it", client)
		}
	}
}

func TestMemoryOfLook(t *testing.T) { // R2, R5
	for client := 0; client <= 9; client++ {
		for _, by := range []int{-1, 0, 1} {
			l, wholes := roomy(full())
			before := deep(wholes)
			seq := 10*client + by
			what, want := toldOf(full()).look(client, seq)
			got, r := Look(l, client, seq)
			_, again := Look(l, client, seq)
			if got != what || !sameReply(r, want) {
				t.Errorf("Look(%d, %d) = %d, %v", client, seq, got, r)
			}
			scribble(r.Pairs)
			if !sameLists(wholes, before) || !sameReply(again, want) {
				t.Errorf("Look(%d, %d): the answer isn't new memory", client, seq)
			}
			for _, w := range wholes {
				scribble(w)
			}
			if !sameReply(again, want) {
				t.Errorf("Look(%d, %d): the answer shares memory with what is given", client, seq)
			}
		}
	}
}

func TestRightChangesNothing(t *testing.T) { // R2, R5
	l, wholes := roomy(full())
	before := deep(wholes)
	if !Right(l) {
		t.Error("what stands in the spare room makes a list wrong")
	}
	if !sameLists(wholes, before) || !same(l, full()) {
		t.Error("Right changes what it is given")
	}
	l = owners{}
	inner, _ := within(nil)
	l[4].Reply.Pairs = inner
	if !Right(l) {
		t.Error("Right reads the spare room")
	}
}

func TestLongReplies(t *testing.T) { // R1
	r := api.Reply{Pairs: slices.Repeat(pairs(40), 5000)}
	l := owners{}
	for client := 1; client <= 8; client++ {
		l = Note(l, client, client, r)
	}
	if Right(l) {
		t.Error("long replies are right")
	}
	for client := 1; client <= 8; client++ {
		if what, got := Look(l, client, client); what != Again || !sameReply(got, r) {
			t.Errorf("Look(%d) = %d, %d pairs", client, what, len(got.Pairs))
		}
	}
}
