package kv

import (
	"math"
	"slices"
	"strings"
	"testing"

	"concord/api"
)

func TestTheLimitsAreApis(t *testing.T) { // the tables are written with these
	if api.MaxKey != 16 || api.MaxValue != 64 || api.MaxPairs != 32 || api.MaxRange != 8 || api.ErrFull != 7 {
		t.Fatal("the limits have other numbers")
	}
}

func TestRight(t *testing.T) { // P11.1
	k16, v64 := strings.Repeat("k", 16), strings.Repeat("v", 64)
	for i, c := range []struct {
		l    []api.Pair
		want bool
	}{
		{nil, true},
		{[]api.Pair{}, true},
		{[]api.Pair{pair("a", "", 1)}, true},
		{[]api.Pair{pair("a", "1", 0)}, false},
		{[]api.Pair{pair("a", "1", -1)}, false},
		{[]api.Pair{pair("a", "1", math.MinInt)}, false},
		{[]api.Pair{pair("a", "1", math.MaxInt)}, true},
		{[]api.Pair{pair("", "1", 1)}, false},
		{[]api.Pair{{}}, false},
		{[]api.Pair{pair(k16, "1", 1)}, true},
		{[]api.Pair{pair(k16+"k", "1", 1)}, false},
		{[]api.Pair{pair(strings.Repeat("é", 8), "1", 1)}, true},
		{[]api.Pair{pair(strings.Repeat("é", 9), "1", 1)}, false}, // bytes count, not letters
		{[]api.Pair{pair("a", v64, 1)}, true},
		{[]api.Pair{pair("a", v64+"v", 1)}, false},
		{[]api.Pair{pair("a", strings.Repeat("é", 32), 1)}, true},
		{[]api.Pair{pair("a", strings.Repeat("é", 33), 1)}, false},
		{[]api.Pair{pair("\x00", "\x00", 1), pair("\x00\x00", "", 2)}, true},
		{keyed("a", "b"), true},
		{keyed("b", "a"), false},
		{keyed("a", "a"), false},
		{keyed("a", "a\x00"), true},
		{keyed("a\x00", "a"), false},
		{keyed("a", "b", "b"), false},
		{keyed("a", "c", "b"), false},
		{keyed("b", "c", "a", "d"), false}, // above the one ahead, not above the first one
		{keyed("a", "B"), false},
		{keyed("B", "a"), true},
		{keyed("\x7f", "\x80"), true},
		{keyed("\x80", "\x7f"), false},
		{keyed("", "a"), false},
		{keyed("9", "10"), false},
		{keyed("10", "9"), true},
		{counted(31), true},
		{counted(32), true},
		{counted(33), false},
		{counted(49), false},
	} {
		if got := Right(c.l); got != c.want {
			t.Errorf("%d: Right(%v) = %t", i, c.l, got)
		}
	}
}

func TestRightGoesByEachPlace(t *testing.T) { // P11.1
	for k := range 32 {
		for i, wrong := range []func(p *api.Pair){
			func(p *api.Pair) { p.Key = "" },
			func(p *api.Pair) { p.Key += strings.Repeat("k", 14) },
			func(p *api.Pair) { p.Key = "j" },
			func(p *api.Pair) { p.Key = "l" },
			func(p *api.Pair) { p.Value = strings.Repeat("v", 65) },
			func(p *api.Pair) { p.Version = 0 },
		} {
			l := counted(32)
			wrong(&l[k])
			// At the ends of the list a key below all, or above all, rises.
			want := i == 2 && k == 0 || i == 3 && k == 31
			if got := Right(l); got != want {
				t.Errorf("wrong in way %d at %d: Right = %t", i, k, got)
			}
		}
	}
}

func TestGet(t *testing.T) { // P11.2
	abc := []api.Pair{pair("a", "1", 3), pair("b", "", 1), pair("c", "3", math.MaxInt)}
	for i, c := range []struct {
		l    []api.Pair
		key  string
		want api.Pair
		is   bool
	}{
		{abc, "a", pair("a", "1", 3), true},
		{abc, "b", pair("b", "", 1), true},
		{abc, "c", pair("c", "3", math.MaxInt), true},
		{abc, "", api.Pair{}, false},
		{abc, "A", api.Pair{}, false},
		{abc, "a\x00", api.Pair{}, false},
		{abc, "aa", api.Pair{}, false},
		{abc, "bb", api.Pair{}, false},
		{abc, "d", api.Pair{}, false},
		{abc, "\xff", api.Pair{}, false},
		{nil, "a", api.Pair{}, false},
		{nil, "", api.Pair{}, false},
		{[]api.Pair{}, "", api.Pair{}, false},
		// What isn't right is got all the same.
		{[]api.Pair{{}}, "", api.Pair{}, true},
		{[]api.Pair{pair("", "x", -7)}, "", pair("", "x", -7), true},
		{[]api.Pair{pair(strings.Repeat("k", 99), "x", 0)}, strings.Repeat("k", 99), pair(strings.Repeat("k", 99), "x", 0), true},
		{counted(49), "k96", pair("k96", "of 48", 49), true},
		// Keys that don't rise: the first place whose key isn't below it counts alone.
		{keyed("b", "a"), "a", api.Pair{}, false},
		{keyed("b", "a"), "b", pair("b", "of 0", 1), true},
		{keyed("a", "a"), "a", pair("a", "of 0", 1), true},
		{keyed("c", "a", "b", "c"), "c", pair("c", "of 0", 1), true},
		{keyed("c", "a", "b", "d"), "d", pair("d", "of 3", 4), true},
		{keyed("a", "d", "b", "c"), "b", api.Pair{}, false},
		{keyed("a", "b", "a", "c"), "c", pair("c", "of 3", 4), true},
		{keyed("b", "a", "c", "a", "d"), "c", pair("c", "of 2", 3), true},
	} {
		if got, is := Get(c.l, c.key); got != c.want || is != c.is {
			t.Errorf("%d: Get(%v, %q) = %v, %t", i, c.l, c.key, got, is)
		}
	}
}

func TestPut(t *testing.T) { // P11.3
	full := counted(32)
	for i, c := range []struct {
		l          []api.Pair
		key, value string
		want       []api.Pair
		why        api.Errno
	}{
		{nil, "b", "1", []api.Pair{pair("b", "1", 1)}, api.OK},
		{[]api.Pair{}, "b", "1", []api.Pair{pair("b", "1", 1)}, api.OK},
		{[]api.Pair{pair("b", "1", 1)}, "a", "2", []api.Pair{pair("a", "2", 1), pair("b", "1", 1)}, api.OK},
		{[]api.Pair{pair("b", "1", 1)}, "c", "2", []api.Pair{pair("b", "1", 1), pair("c", "2", 1)}, api.OK},
		{[]api.Pair{pair("b", "1", 1)}, "b", "2", []api.Pair{pair("b", "2", 2)}, api.OK},
		{[]api.Pair{pair("b", "1", 1)}, "b", "1", []api.Pair{pair("b", "1", 2)}, api.OK}, // the same value counts, too
		{[]api.Pair{pair("b", "1", 1)}, "b", "", []api.Pair{pair("b", "", 2)}, api.OK},
		{[]api.Pair{pair("b", "1", math.MaxInt-1)}, "b", "2", []api.Pair{pair("b", "2", math.MaxInt)}, api.OK},
		{[]api.Pair{pair("a", "1", 4), pair("c", "3", 6)}, "b", "2", []api.Pair{pair("a", "1", 4), pair("b", "2", 1), pair("c", "3", 6)}, api.OK},
		{[]api.Pair{pair("a", "1", 4), pair("b", "2", 5), pair("c", "3", 6)}, "b", "9", []api.Pair{pair("a", "1", 4), pair("b", "9", 6), pair("c", "3", 6)}, api.OK},
		{[]api.Pair{pair("a", "1", 4), pair("b", "2", 5), pair("c", "3", 6)}, "c", "9", []api.Pair{pair("a", "1", 4), pair("b", "2", 5), pair("c", "9", 7)}, api.OK},
		{[]api.Pair{pair("a", "1", 4)}, "a\x00", "2", []api.Pair{pair("a", "1", 4), pair("a\x00", "2", 1)}, api.OK},
		{[]api.Pair{pair("a", "1", 4)}, "\x80", "2", []api.Pair{pair("a", "1", 4), pair("\x80", "2", 1)}, api.OK},
		// Room there is up to 32; behind that for keys that stand alone.
		{counted(31), "l", "x", append(counted(31), pair("l", "x", 1)), api.OK},
		{full, "l", "x", nil, api.ErrFull},
		{full, "j", "x", nil, api.ErrFull},
		{full, "k01", "x", nil, api.ErrFull},
		{full, "", "x", nil, api.ErrFull},
		{counted(33), "k01", "x", nil, api.ErrFull},
		{counted(49), "l", "x", nil, api.ErrFull},
		{full, "k00", "x", append([]api.Pair{pair("k00", "x", 2)}, full[1:]...), api.OK},
		{full, "k62", "x", append(counted(31), pair("k62", "x", 33)), api.OK},
		{counted(49), "k96", "x", append(counted(48), pair("k96", "x", 50)), api.OK},
		// Neither the key nor the value is asked, nor the list.
		{nil, "", "", []api.Pair{pair("", "", 1)}, api.OK},
		{nil, strings.Repeat("k", 17), strings.Repeat("v", 65), []api.Pair{pair(strings.Repeat("k", 17), strings.Repeat("v", 65), 1)}, api.OK},
		{[]api.Pair{pair("a", "1", -5)}, "a", "2", []api.Pair{pair("a", "2", -4)}, api.OK},
		{[]api.Pair{pair("a", "1", -1)}, "a", "2", []api.Pair{pair("a", "2", 0)}, api.OK},
		{keyed("b", "a"), "a", "x", []api.Pair{pair("a", "x", 1), pair("b", "of 0", 1), pair("a", "of 1", 2)}, api.OK},
		{keyed("a", "a"), "a", "x", []api.Pair{pair("a", "x", 2), pair("a", "of 1", 2)}, api.OK},
		{keyed("b", "a", "d", "a"), "c", "x", []api.Pair{pair("b", "of 0", 1), pair("a", "of 1", 2), pair("c", "x", 1), pair("d", "of 2", 3), pair("a", "of 3", 4)}, api.OK},
		{slices.Repeat(keyed("b", "a"), 16), "a", "x", nil, api.ErrFull},
		{slices.Repeat(keyed("b", "a"), 16), "b", "x", append([]api.Pair{pair("b", "x", 2)}, slices.Repeat(keyed("b", "a"), 16)[1:]...), api.OK},
	} {
		got, why := Put(c.l, c.key, c.value)
		if !slices.Equal(got, c.want) || why != c.why {
			t.Errorf("%d: Put(%v, %q, %q) = %v, %d", i, c.l, c.key, c.value, got, why)
		}
	}
}

func TestPutOfTheGreatestVersionAnswers(t *testing.T) { // R1
	if l, why := Put([]api.Pair{pair("a", "1", math.MaxInt)}, "a", "2"); why != api.OK || len(l) != 1 {
		t.Errorf("Put = %v, %d", l, why)
	}
}

func TestDelete(t *testing.T) { // P11.4
	for i, c := range []struct {
		l    []api.Pair
		key  string
		want []api.Pair
		is   bool
	}{
		{nil, "a", nil, false},
		{[]api.Pair{}, "", nil, false},
		{[]api.Pair{pair("a", "1", 1)}, "a", nil, true},
		{[]api.Pair{pair("a", "1", 1)}, "b", []api.Pair{pair("a", "1", 1)}, false},
		{[]api.Pair{pair("b", "1", 1)}, "a", []api.Pair{pair("b", "1", 1)}, false},
		{[]api.Pair{pair("b", "1", 1)}, "", []api.Pair{pair("b", "1", 1)}, false},
		{[]api.Pair{pair("a", "1", 4), pair("b", "2", 5), pair("c", "3", 6)}, "a", []api.Pair{pair("b", "2", 5), pair("c", "3", 6)}, true},
		{[]api.Pair{pair("a", "1", 4), pair("b", "2", 5), pair("c", "3", 6)}, "b", []api.Pair{pair("a", "1", 4), pair("c", "3", 6)}, true},
		{[]api.Pair{pair("a", "1", 4), pair("b", "2", 5), pair("c", "3", 6)}, "c", []api.Pair{pair("a", "1", 4), pair("b", "2", 5)}, true},
		{[]api.Pair{pair("a", "1", 4), pair("b", "2", 5), pair("c", "3", 6)}, "bb", []api.Pair{pair("a", "1", 4), pair("b", "2", 5), pair("c", "3", 6)}, false},
		{[]api.Pair{pair("a", "1", 4), pair("a\x00", "2", 5)}, "a", []api.Pair{pair("a\x00", "2", 5)}, true},
		{counted(33), "k64", counted(32), true},
		{counted(49), "k95", counted(49), false},
		{[]api.Pair{pair("", "x", 0)}, "", nil, true},
		// Keys that don't rise: one pair goes, where the key stands first.
		{keyed("b", "a"), "a", keyed("b", "a"), false},
		{keyed("b", "a"), "b", []api.Pair{pair("a", "of 1", 2)}, true},
		{keyed("a", "a"), "a", []api.Pair{pair("a", "of 1", 2)}, true},
		{keyed("c", "b", "c"), "c", []api.Pair{pair("b", "of 1", 2), pair("c", "of 2", 3)}, true},
		{keyed("b", "a", "c", "a"), "c", []api.Pair{pair("b", "of 0", 1), pair("a", "of 1", 2), pair("a", "of 3", 4)}, true},
	} {
		got, is := Delete(c.l, c.key)
		if !slices.Equal(got, c.want) || is != c.is {
			t.Errorf("%d: Delete(%v, %q) = %v, %t", i, c.l, c.key, got, is)
		}
	}
}

func TestRange(t *testing.T) { // P11.5
	all := api.Span{}
	ten := counted(10)
	for i, c := range []struct {
		l    []api.Pair
		s    api.Span
		want []api.Pair
		more bool
	}{
		{nil, all, nil, false},
		{[]api.Pair{}, all, nil, false},
		{counted(1), all, counted(1), false},
		{counted(7), all, counted(7), false},
		{counted(8), all, counted(8), false},
		{counted(9), all, counted(8), true},
		{ten, all, counted(8), true},
		{counted(32), all, counted(8), true},
		{counted(49), all, counted(8), true},
		{ten, api.Span{Lo: "k02"}, ten[1:9], true},
		{ten, api.Span{Lo: "k03"}, ten[2:], false},
		{ten, api.Span{Lo: "k04"}, ten[2:], false},
		{ten, api.Span{Hi: "k18"}, ten[:8], true},
		{ten, api.Span{Hi: "k16"}, ten[:8], false},
		{ten, api.Span{Hi: "k16\x00"}, ten[:8], true},
		{ten, api.Span{Lo: "k04", Hi: "k08"}, ten[2:4], false},
		{ten, api.Span{Lo: "k04", Hi: "k04"}, nil, false},
		{ten, api.Span{Lo: "k08", Hi: "k04"}, nil, false},
		{ten, api.Span{Lo: "k04", Hi: "k04\x00"}, ten[2:3], false},
		{ten, api.Span{Lo: "k05", Hi: "k06"}, nil, false},
		{ten, api.Span{Lo: "l"}, nil, false},
		{ten, api.Span{Hi: "k"}, nil, false},
		{ten, api.Span{Lo: "k", Hi: "l"}, ten[:8], true},
		{keyed("a", "\x80"), api.Span{Lo: "b"}, []api.Pair{pair("\x80", "of 1", 2)}, false},
		// Lists that aren't right: in their order, as often as a key is there.
		{[]api.Pair{{}}, all, []api.Pair{{}}, false},
		{keyed("c", "a", "b", "a"), all, keyed("c", "a", "b", "a"), false},
		{keyed("c", "a", "b", "a"), api.Span{Lo: "a", Hi: "b"}, []api.Pair{pair("a", "of 1", 2), pair("a", "of 3", 4)}, false},
		{append(keyed("z", "y", "x", "w", "v", "u", "t", "s", "r"), ten...), api.Span{Lo: "k", Hi: "l"}, ten[:8], true},
		{append(counted(8), keyed("a", "z", "b")...), api.Span{Lo: "k", Hi: "l"}, counted(8), false}, // those left over aren't in it
		{append(counted(8), keyed("a", "z", "k")...), api.Span{Lo: "k", Hi: "l"}, counted(8), true},
	} {
		got, more := Range(c.l, c.s)
		if !slices.Equal(got, c.want) || more != c.more {
			t.Errorf("%d: Range(%v, %q) = %v, %t", i, c.l, c.s, got, more)
		}
	}
}

func TestRuns(t *testing.T) { // the chapter's runs
	l, why := Put(nil, "b", "1")
	if why != api.OK {
		t.Fatal(why)
	}
	if l, why = Put(l, "a", "2"); why != api.OK {
		t.Fatal(why)
	}
	if l, why = Put(l, "b", "3"); why != api.OK || !slices.Equal(l, []api.Pair{pair("a", "2", 1), pair("b", "3", 2)}) {
		t.Errorf("Puts: %v, %d", l, why)
	}
	l, is := Delete(l, "a")
	if !is || !slices.Equal(l, []api.Pair{pair("b", "3", 2)}) {
		t.Errorf("Delete: %v, %t", l, is)
	}
	if p, is := Get(l, "a"); is || p != (api.Pair{}) {
		t.Errorf("Get: %v, %t", p, is)
	}
	if some, more := Range(counted(10), api.Span{}); len(some) != 8 || !more {
		t.Errorf("Range: %v, %t", some, more)
	}
}

func TestAPairThatIsPutAgainBeginsAnew(t *testing.T) { // P11.3, P11.4: a Version ends with its pair
	l := []api.Pair{pair("a", "1", 9)}
	l, _ = Delete(l, "a")
	if l, _ = Put(l, "a", "2"); !slices.Equal(l, []api.Pair{pair("a", "2", 1)}) {
		t.Errorf("Put behind Delete: %v", l)
	}
}
