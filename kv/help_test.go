package kv

import (
	"slices"
	"strconv"
	"strings"
	"testing"

	"concord/api"
)

func pair(key, value string, version int) api.Pair {
	return api.Pair{Key: key, Value: value, Version: version}
}

// keyed is a pair of each of these keys, in this order, each with a value and a version of its own.
func keyed(keys ...string) []api.Pair {
	var l []api.Pair
	for k, key := range keys {
		l = append(l, pair(key, "of "+strconv.Itoa(k), k+1))
	}
	return l
}

// counted are n pairs by rising keys: k00, k02, and so on, so that other keys find room between them.
func counted(n int) []api.Pair {
	var keys []string
	for k := range n {
		keys = append(keys, "k"+strconv.Itoa(100 + 2*k)[1:])
	}
	return keyed(keys...)
}

// chance makes numbers that look like chance, the same ones at each run.
type chance uint64

func (c *chance) below(n int) int {
	*c = *c*6364136223846793005 + 1442695040888963407
	return int(uint64(*c) >> 33 % uint64(n))
}

func (c *chance) of(texts []string) string { return texts[c.below(len(texts))] }

// keys are some that rise, with their beginnings, bytes above 127 and what isn't right among them.
func keys() []string {
	return []string{"", "\x00", "a", "a\x00", "aa", "b", "c", "ca", "k", strings.Repeat("m", 16), strings.Repeat("m", 17), "z", "\x7f", "\x80", "é", "\xff", "\xff\xff"}
}

// rightKeys are the same without those that aren't right.
func rightKeys() []string {
	return slices.DeleteFunc(keys(), func(k string) bool { return k == "" || len(k) > 16 })
}

// senseless is a list whose keys needn't rise.
func (c *chance) senseless(most int) []api.Pair {
	var l []api.Pair
	for range c.below(most + 1) {
		l = append(l, pair(c.of(keys()), c.of(keys()), c.below(5)-1))
	}
	return l
}

// stand is where the key stands, or would stand, by chapter 11's words.
func stand(l []api.Pair, key string) (int, bool) {
	k := slices.IndexFunc(l, func(p api.Pair) bool { return strings.Compare(p.Key, key) >= 0 })
	if k < 0 {
		return len(l), false
	}
	return k, strings.Compare(l[k].Key, key) == 0
}

// strange is what stands in a list's spare room: it must be neither read nor written.
func strange() api.Pair { return pair("b", "strange", 77) }

// within answers l with room ahead of it and behind it, and the whole of it.
func within(l []api.Pair) (inner, whole []api.Pair) {
	whole = slices.Repeat([]api.Pair{strange()}, len(l)+12)
	copy(whole[4:], l)
	return whole[4 : 4+len(l)], whole
}

// scribble writes over l and its spare room.
func scribble(l []api.Pair) {
	l = l[:cap(l)]
	for k := range l {
		l[k] = pair("scribbled", "over", -9)
	}
}

// apart calls with l, and tells whether what is answered is want in memory of its own, and l as it was.
func apart(t *testing.T, what string, l, want []api.Pair, call func(l []api.Pair) []api.Pair) {
	t.Helper()
	inner, whole := within(l)
	before := slices.Clone(whole)
	got := call(inner)
	if !slices.Equal(got, want) {
		t.Errorf("%s of %v = %v, not %v", what, l, got, want)
	}
	if !slices.Equal(whole, before) {
		t.Errorf("%s of %v changes what it is given: %v", what, l, whole)
	}
	again := call(inner)
	scribble(got)
	if !slices.Equal(whole, before) || !slices.Equal(again, want) {
		t.Errorf("%s of %v: the answer isn't new memory", what, l)
	}
	scribble(whole)
	if !slices.Equal(again, want) {
		t.Errorf("%s of %v: the answer shares memory with what is given", what, l)
	}
}
