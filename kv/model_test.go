package kv

import (
	"maps"
	"slices"
	"strings"
	"testing"

	"concord/api"
)

// store is what a right list holds, by its words alone: a map, sorted when it is told.
type store map[string]api.Pair

func (s store) list() []api.Pair {
	var l []api.Pair
	for _, key := range slices.Sorted(maps.Keys(s)) {
		l = append(l, s[key])
	}
	return l
}

// within are the pairs whose keys are from lo on and below hi, at most eight, and whether there are more.
func (s store) within(lo, hi string) ([]api.Pair, bool) {
	l := slices.DeleteFunc(s.list(), func(p api.Pair) bool { return p.Key < lo || hi != "" && p.Key >= hi })
	return l[:min(len(l), 8)], len(l) > 8
}

// put does what Put must do, and answers whether there was room.
func (s store) put(key, value string) bool {
	old, is := s[key]
	if !is && len(s) == 32 {
		return false
	}
	s[key] = pair(key, value, old.Version+1)
	return true
}

// manyKeys are right ones, more than are stored.
func manyKeys() []string {
	l := rightKeys()
	for _, p := range counted(30) {
		l = append(l, p.Key)
	}
	return l
}

func TestScriptsOfRightLists(t *testing.T) { // P11.1 to P11.6
	c := chance(3)
	full := 0
	for script := range 300 {
		model, l := store{}, []api.Pair(nil)
		names := manyKeys()
		if script%3 != 0 {
			names = names[:5+script%30]
		}
		for range 200 {
			key, value := c.of(names), strings.Repeat("v", c.below(65))
			if c.below(5) == 0 {
				_, was := model[key]
				delete(model, key)
				next, is := Delete(l, key)
				if is != was {
					t.Fatalf("Delete(%v, %q) answers %t", l, key, is)
				}
				l = next
			} else {
				next, why := Put(l, key, value)
				if model.put(key, value) {
					if got, is := Get(next, key); why != api.OK || !is || got != model[key] {
						t.Fatalf("Put(%v, %q, %q) answers %d; Get then %v, %t", l, key, value, why, got, is)
					}
					l = next
				} else if full++; why != api.ErrFull || next != nil {
					t.Fatalf("Put(%v, %q, %q) = %v, %d", l, key, value, next, why)
				}
			}
			checkAgainst(t, &c, model, l)
		}
	}
	if full < 500 {
		t.Errorf("%d times full", full)
	}
}

// checkAgainst holds l and its reads against the model.
func checkAgainst(t *testing.T, c *chance, model store, l []api.Pair) {
	t.Helper()
	if !slices.Equal(l, model.list()) || !Right(l) {
		t.Fatalf("%v, right: %t; not %v", l, Right(l), model.list())
	}
	key := c.of(manyKeys())
	want, was := model[key]
	if got, is := Get(l, key); got != want || is != was {
		t.Fatalf("Get(%v, %q) = %v, %t", l, key, got, is)
	}
	s := api.Span{Lo: c.of(keys()), Hi: c.of(keys())}
	some, more := model.within(s.Lo, s.Hi)
	if got, are := Range(l, s); !slices.Equal(got, some) || are != more {
		t.Fatalf("Range(%v, %q) = %v, %t", l, s, got, are)
	}
}

func TestSenselessLists(t *testing.T) { // P11.2 to P11.5 of lists whose keys needn't rise, by the words
	c := chance(4)
	for range 20000 {
		l := c.senseless(2 + c.below(40))
		key, value := c.of(keys()), c.of(keys())
		at, stands := stand(l, key)
		var held api.Pair
		without, put, why := l, []api.Pair(nil), api.ErrFull
		if stands {
			held = l[at]
			without = slices.Delete(slices.Clone(l), at, at+1)
			put, why = slices.Insert(slices.Clone(without), at, pair(key, value, held.Version+1)), api.OK
		} else if len(l) < 32 {
			put, why = slices.Insert(slices.Clone(l), at, pair(key, value, 1)), api.OK
		}
		if got, is := Get(l, key); got != held || is != stands {
			t.Fatalf("Get(%v, %q) = %v, %t", l, key, got, is)
		}
		if got, is := Delete(l, key); !slices.Equal(got, without) || is != stands {
			t.Fatalf("Delete(%v, %q) = %v, %t", l, key, got, is)
		}
		if got, e := Put(l, key, value); !slices.Equal(got, put) || e != why {
			t.Fatalf("Put(%v, %q, %q) = %v, %d", l, key, value, got, e)
		}
		rangeByWords(t, &c, l)
	}
}

// rangeByWords holds Range of some span of l against what is left of l without the keys outside.
func rangeByWords(t *testing.T, c *chance, l []api.Pair) {
	t.Helper()
	s := api.Span{Lo: c.of(keys()), Hi: c.of(keys())}
	in := slices.DeleteFunc(slices.Clone(l), func(p api.Pair) bool {
		return strings.Compare(p.Key, s.Lo) < 0 || s.Hi != "" && strings.Compare(p.Key, s.Hi) >= 0
	})
	want := in[:min(len(in), 8)]
	if got, more := Range(l, s); !slices.Equal(got, want) || more != (len(in) > 8) {
		t.Fatalf("Range(%v, %q) = %v, %t", l, s, got, more)
	}
}

func TestRightBySenselessLists(t *testing.T) { // P11.1
	c := chance(5)
	right := 0
	for range 50000 {
		l := c.senseless(4)
		if c.below(2) == 0 {
			slices.SortFunc(l, func(a, b api.Pair) int { return strings.Compare(a.Key, b.Key) })
		}
		model := store{}
		for _, p := range l {
			if p.Key != "" && len(p.Key) <= 16 && p.Version >= 1 {
				model[p.Key] = p
			}
		}
		want := slices.Equal(l, model.list())
		if Right(l) != want {
			t.Fatalf("Right(%v) = %t", l, !want)
		}
		if want {
			right++
		}
	}
	if right < 5000 {
		t.Errorf("%d lists are right", right)
	}
}

func TestOtherPairsStay(t *testing.T) { // P11.6
	for _, l := range [][]api.Pair{counted(5), counted(31), keyed("c", "a", "b", "c", "a")} {
		for _, key := range append(manyKeys(), keys()...) {
			put, _ := Put(l, key, "new")
			less, _ := Delete(l, key)
			if p, is := Get(put, key); !is || p.Value != "new" {
				t.Errorf("Get of Put(%v, %q) = %v, %t", l, key, p, is)
			}
			others := slices.DeleteFunc(slices.Clone(l), func(p api.Pair) bool { return p.Key == key })
			for _, after := range [][]api.Pair{put, less} {
				if got := slices.DeleteFunc(slices.Clone(after), func(p api.Pair) bool { return p.Key == key }); !slices.Equal(got, others) {
					t.Errorf("%q of %v: the others are %v", key, l, got)
				}
			}
		}
	}
}

func TestMemory(t *testing.T) { // R2, R5, and the Ways: each change answers another list
	for _, l := range [][]api.Pair{nil, keyed("a"), keyed("c"), keyed("a", "c"), counted(8), counted(9), counted(31), counted(32), counted(40), keyed("c", "a", "b")} {
		for _, key := range []string{"", "a", "b", "c", "k00", "k05", "k14", "k62", "z"} {
			at, stands := stand(l, key)
			put, why := Put(l, key, "new")
			apart(t, "Put of "+key, l, put, func(l []api.Pair) []api.Pair {
				got, e := Put(l, key, "new")
				if e != why {
					t.Errorf("Put of %q among %v: %d", key, l, e)
				}
				return got
			})
			without := slices.Clone(l)
			if stands {
				without = slices.Delete(without, at, at+1)
			}
			apart(t, "Delete of "+key, l, without, func(l []api.Pair) []api.Pair {
				got, _ := Delete(l, key)
				return got
			})
		}
		some, _ := Range(l, api.Span{})
		apart(t, "Range", l, some, func(l []api.Pair) []api.Pair {
			got, _ := Range(l, api.Span{})
			return got
		})
		inner, whole := within(l)
		before := slices.Clone(whole)
		Right(inner)
		Get(inner, "b")
		if !slices.Equal(whole, before) {
			t.Errorf("Right or Get changes %v", l)
		}
	}
}

func TestSpareRoomIsNotRead(t *testing.T) { // R5: a pair of b stands there
	inner, _ := within(keyed("a"))
	if _, is := Get(inner, "b"); is {
		t.Error("Get reads the spare room")
	}
	if _, is := Delete(inner, "b"); is {
		t.Error("Delete reads the spare room")
	}
	if l, _ := Put(inner, "b", "1"); !slices.Equal(l, []api.Pair{pair("a", "of 0", 1), pair("b", "1", 1)}) {
		t.Errorf("Put reads the spare room: %v", l)
	}
	if l, more := Range(inner, api.Span{}); len(l) != 1 || more {
		t.Errorf("Range reads the spare room: %v", l)
	}
	if none := inner[:0]; !Right(none) {
		t.Error("Right reads the spare room")
	}
}

func TestLongLists(t *testing.T) { // R1
	l := slices.Repeat(counted(40), 5000)
	if Right(l) {
		t.Error("a long list is right")
	}
	if p, is := Get(l, "k78"); !is || p != l[39] {
		t.Errorf("Get = %v, %t", p, is)
	}
	if _, is := Get(l, "l"); is {
		t.Error("Get finds what isn't there")
	}
	if got, why := Put(l, "l", "x"); got != nil || why != api.ErrFull {
		t.Errorf("Put: %d pairs, %d", len(got), why)
	}
	if got, is := Delete(l, "k78"); !is || len(got) != len(l)-1 {
		t.Errorf("Delete: %d pairs, %t", len(got), is)
	}
	if got, more := Range(l, api.Span{Lo: "k78"}); len(got) != 8 || !more || got[7] != l[39] {
		t.Errorf("Range: %v, %t", got, more)
	}
}
