package span

import (
	"bytes"
	"strings"
	"testing"

	"concord/api"
)

// rising are texts in the order of their bytes, the empty one first: what is told of them is told by their places, not by the texts.
func rising() []string {
	long := strings.Repeat("m", 40) // longer than a key may be
	return []string{"", "\x00", "\x00\x00", "\x00a", "A", "a", "a\x00", "a\x00\x00", "a\x01", "aa", "ab", "b", "b\x00", "c", long[:39], long, long + "\x00", "z", "\x7f", "\x80", "\xc3\x28", "é", "日", "\xff", "\xff\x00", "\xff\xff"}
}

// placed is a span by the places of its bounds in rising; at 0 stands the empty text.
type placed struct{ lo, hi int }

// allPlaced are the spans of all bounds, those the wrong way round too.
func allPlaced() []placed {
	var l []placed
	for lo := range rising() {
		for hi := range rising() {
			l = append(l, placed{lo, hi})
		}
	}
	return l
}

func (p placed) span(texts []string) api.Span { return api.Span{Lo: texts[p.lo], Hi: texts[p.hi]} }

func (p placed) has(k int) bool { return k >= p.lo && (k < p.hi || p.hi == 0) }

// keys are the places whose keys p has, as bits: a span that has a key has its lowest bound, which is one of rising.
func (p placed) keys() uint64 {
	var l uint64
	for k := range rising() {
		if p.has(k) {
			l |= 1 << k
		}
	}
	return l
}

// both is the span of the greater lowest bound and the lesser highest one.
func (p placed) both(o placed) placed {
	hi := min(p.hi, o.hi)
	if hi == 0 {
		hi = max(p.hi, o.hi)
	}
	return placed{max(p.lo, o.lo), hi}
}

// The other tests stand on the order of these texts.
func TestTheTextsRise(t *testing.T) {
	l := rising()
	for i, s := range l[1:] {
		if bytes.Compare([]byte(l[i]), []byte(s)) >= 0 {
			t.Errorf("%q behind %q", s, l[i])
		}
	}
	if len(l) > 64 {
		t.Errorf("%d texts have no room as bits", len(l))
	}
}

func TestOf(t *testing.T) { // P4.1 and the run
	for _, c := range []struct {
		k    string
		want api.Span
	}{
		{"a", api.Span{Lo: "a", Hi: "a\x00"}},
		{"", api.Span{Lo: "", Hi: "\x00"}},
		{"\x00", api.Span{Lo: "\x00", Hi: "\x00\x00"}},
		{"\xff\xff", api.Span{Lo: "\xff\xff", Hi: "\xff\xff\x00"}},
		{"日", api.Span{Lo: "日", Hi: "日\x00"}},
		{strings.Repeat("k", 1<<20), api.Span{Lo: strings.Repeat("k", 1<<20), Hi: strings.Repeat("k", 1<<20) + "\x00"}},
	} {
		if got := Of(c.k); got != c.want {
			t.Errorf("Of(%.20q) = %.60q", c.k, got)
		}
	}
}

func TestOfHasItsKeyAlone(t *testing.T) { // P4.1
	for i, k := range rising() {
		s := Of(k)
		if Empty(s) {
			t.Errorf("Of(%q) is empty", k)
		}
		for j, other := range rising() {
			if got := Has(s, other); got != (i == j) {
				t.Errorf("Of(%q) has %q: %t", k, other, got)
			}
		}
	}
}

func TestHas(t *testing.T) { // P4.1 and the runs
	for i, c := range []struct {
		s    api.Span
		k    string
		want bool
	}{
		{api.Span{Lo: "a", Hi: "c"}, "b", true},
		{api.Span{Lo: "a", Hi: "c"}, "c", false},
		{api.Span{Lo: "a", Hi: "c"}, "a", true},
		{api.Span{Lo: "a", Hi: "c"}, "", false},
		{api.Span{Lo: "a", Hi: "c"}, "Z", false},
		{api.Span{Lo: "a", Hi: "c"}, "b\xff", true},
		{api.Span{Lo: "a", Hi: "c"}, "c\x00", false},
		{api.Span{Lo: "a", Hi: "c"}, "\xff", false},
		{api.Span{Lo: "a"}, "a", true},
		{api.Span{Lo: "a"}, "\xff\xff", true},
		{api.Span{Lo: "a"}, "", false},
		{api.Span{}, "", true},
		{api.Span{}, "\xff", true},
		{api.Span{Hi: "b"}, "", true},
		{api.Span{Hi: "b"}, "b", false},
		{api.Span{Lo: "b", Hi: "b"}, "b", false},
		{api.Span{Lo: "c", Hi: "a"}, "b", false},
	} {
		if got := Has(c.s, c.k); got != c.want {
			t.Errorf("%d: Has(%q, %q) = %t", i, c.s, c.k, got)
		}
	}
}

func TestEmpty(t *testing.T) { // P4.1 and the run
	for _, c := range []struct {
		s    api.Span
		want bool
	}{
		{api.Span{Lo: "b", Hi: "b"}, true},
		{api.Span{Lo: "b", Hi: "a"}, true},
		{api.Span{Lo: "b\x00", Hi: "b"}, true},
		{api.Span{Lo: "\xff", Hi: "a"}, true},
		{api.Span{Lo: "a", Hi: "b"}, false},
		{api.Span{Lo: "b", Hi: "b\x00"}, false},
		{api.Span{Lo: "a", Hi: "\xff"}, false},
		{api.Span{Hi: "\x00"}, false},
		{api.Span{}, false},
		{api.Span{Lo: "b"}, false},
		{api.Span{Lo: "\xff\xff"}, false},
	} {
		if got := Empty(c.s); got != c.want {
			t.Errorf("Empty(%q) = %t", c.s, got)
		}
	}
}

func TestMeets(t *testing.T) { // P4.2 and the runs
	for i, c := range []struct {
		a, b api.Span
		want bool
	}{
		{api.Span{Lo: "a", Hi: "c"}, api.Span{Lo: "b", Hi: "d"}, true},
		{api.Span{Lo: "a", Hi: "b"}, api.Span{Lo: "b", Hi: "c"}, false},
		{api.Span{Lo: "a", Hi: "b\x00"}, api.Span{Lo: "b", Hi: "c"}, true},
		{api.Span{Lo: "a", Hi: "b"}, api.Span{Lo: "c", Hi: "d"}, false},
		{api.Span{Lo: "a", Hi: "d"}, api.Span{Lo: "b", Hi: "c"}, true},
		{api.Span{Lo: "a"}, api.Span{Lo: "b"}, true},
		{api.Span{Lo: "a"}, api.Span{Hi: "a"}, false},
		{api.Span{Lo: "a"}, api.Span{Hi: "b"}, true},
		{api.Span{}, api.Span{}, true},
		{api.Span{}, api.Span{Lo: "\xff"}, true},
		{api.Span{Lo: "a", Hi: "d"}, api.Span{Lo: "b", Hi: "b"}, false},
		{api.Span{Lo: "a", Hi: "d"}, api.Span{Lo: "c", Hi: "b"}, false},
		{api.Span{}, api.Span{Lo: "b", Hi: "b"}, false},
		{api.Span{Lo: "c", Hi: "a"}, api.Span{Lo: "c", Hi: "a"}, false},
		{Of("a"), Of("a"), true},
		{Of("a"), Of("a\x00"), false},
		{Of(""), Of("\x00"), false},
		{Of(""), api.Span{}, true},
	} {
		if Meets(c.a, c.b) != c.want || Meets(c.b, c.a) != c.want {
			t.Errorf("%d: Meets(%q, %q) = %t, and turned round %t", i, c.a, c.b, Meets(c.a, c.b), Meets(c.b, c.a))
		}
	}
}

func TestCovers(t *testing.T) { // P4.2 and the run
	for i, c := range []struct {
		a, b api.Span
		want bool
	}{
		{api.Span{Lo: "a"}, api.Span{Lo: "b", Hi: "c"}, true},
		{api.Span{Lo: "b", Hi: "c"}, api.Span{Lo: "a"}, false},
		{api.Span{Lo: "a", Hi: "c"}, api.Span{Lo: "a", Hi: "c"}, true},
		{api.Span{Lo: "a", Hi: "c"}, api.Span{Lo: "a", Hi: "c\x00"}, false},
		{api.Span{Lo: "a\x00", Hi: "c"}, api.Span{Lo: "a", Hi: "c"}, false},
		{api.Span{Lo: "a", Hi: "c"}, api.Span{Lo: "b"}, false},
		{api.Span{Lo: "a"}, api.Span{Lo: "a"}, true},
		{api.Span{Lo: "b"}, api.Span{Lo: "a"}, false},
		{api.Span{}, api.Span{}, true},
		{api.Span{}, api.Span{Lo: "a", Hi: "b"}, true},
		{api.Span{Hi: "\xff"}, api.Span{}, false},
		{api.Span{Lo: "a", Hi: "b"}, api.Span{Lo: "c", Hi: "d"}, false},
		{api.Span{Lo: "a", Hi: "b"}, api.Span{Lo: "d", Hi: "d"}, true},
		{api.Span{Lo: "a", Hi: "b"}, api.Span{Lo: "d", Hi: "c"}, true},
		{api.Span{Lo: "c", Hi: "a"}, api.Span{Lo: "c", Hi: "a"}, true},
		{api.Span{Lo: "c", Hi: "a"}, api.Span{Lo: "c", Hi: "d"}, false},
		{api.Span{Lo: "c", Hi: "c"}, api.Span{Lo: "c"}, false},
	} {
		if got := Covers(c.a, c.b); got != c.want {
			t.Errorf("%d: Covers(%q, %q) = %t", i, c.a, c.b, got)
		}
	}
}

func TestBoth(t *testing.T) { // P4.2 and the run
	for i, c := range []struct{ a, b, want api.Span }{
		{api.Span{Lo: "a", Hi: "c"}, api.Span{Lo: "b"}, api.Span{Lo: "b", Hi: "c"}},
		{api.Span{Lo: "a", Hi: "c"}, api.Span{Lo: "b", Hi: "d"}, api.Span{Lo: "b", Hi: "c"}},
		{api.Span{Lo: "a", Hi: "d"}, api.Span{Lo: "b", Hi: "c"}, api.Span{Lo: "b", Hi: "c"}},
		{api.Span{Lo: "a"}, api.Span{Lo: "b"}, api.Span{Lo: "b"}},
		{api.Span{}, api.Span{}, api.Span{}},
		{api.Span{}, api.Span{Lo: "a", Hi: "b"}, api.Span{Lo: "a", Hi: "b"}},
		{api.Span{Lo: "b"}, api.Span{Hi: "a"}, api.Span{Lo: "b", Hi: "a"}},
		{api.Span{Lo: "a", Hi: "b"}, api.Span{Lo: "c", Hi: "d"}, api.Span{Lo: "c", Hi: "b"}},
		{api.Span{Lo: "d", Hi: "a"}, api.Span{Lo: "b", Hi: "c"}, api.Span{Lo: "d", Hi: "a"}},
		{Of("a"), Of("a\x00"), api.Span{Lo: "a\x00", Hi: "a\x00"}},
		{Of("\x7f"), Of("\x80"), api.Span{Lo: "\x80", Hi: "\x7f\x00"}},
	} {
		if Both(c.a, c.b) != c.want || Both(c.b, c.a) != c.want {
			t.Errorf("%d: Both(%q, %q) = %q, and turned round %q", i, c.a, c.b, Both(c.a, c.b), Both(c.b, c.a))
		}
	}
}

func TestASpanHasItsKeys(t *testing.T) { // P4.1
	texts := rising()
	for _, p := range allPlaced() {
		s := p.span(texts)
		if got := Empty(s); got != (p.keys() == 0) {
			t.Errorf("Empty(%q) = %t", s, got)
		}
		for k, text := range texts {
			if got := Has(s, text); got != p.has(k) {
				t.Errorf("Has(%q, %q) = %t", s, text, got)
			}
		}
	}
}

func TestTwoSpansGoByTheirKeys(t *testing.T) { // P4.2
	texts := rising()
	for _, p := range allPlaced() {
		mine, a := p.keys(), p.span(texts)
		for _, o := range allPlaced() {
			its, b := o.keys(), o.span(texts)
			if got := Meets(a, b); got != (mine&its != 0) {
				t.Fatalf("Meets(%q, %q) = %t", a, b, got)
			}
			if got := Covers(a, b); got != (its&^mine == 0) {
				t.Fatalf("Covers(%q, %q) = %t", a, b, got)
			}
			if got := Both(a, b); got != p.both(o).span(texts) {
				t.Fatalf("Both(%q, %q) = %q", a, b, got)
			}
		}
	}
}

func TestWhatFollows(t *testing.T) { // P4.3
	texts := []string{"", "\x00", "a", "a\x00", "b", "\x80", "\xff"}
	var spans []api.Span
	for _, lo := range texts {
		for _, hi := range texts {
			spans = append(spans, api.Span{Lo: lo, Hi: hi})
		}
	}
	for _, a := range spans {
		for _, b := range spans {
			both := Both(a, b)
			if want := !Empty(both) && !Empty(a) && !Empty(b); Meets(a, b) != want {
				t.Fatalf("Meets(%q, %q) = %t", a, b, !want)
			}
			for _, k := range texts {
				if want := Has(a, k) && Has(b, k); Has(both, k) != want {
					t.Fatalf("Both(%q, %q) has %q: %t", a, b, k, !want)
				}
				if Covers(a, b) && Has(b, k) && !Has(a, k) {
					t.Fatalf("%q covers %q, but for %q", a, b, k)
				}
			}
		}
	}
}
