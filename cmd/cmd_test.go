package cmd

import (
	"bytes"
	"math"
	"strings"
	"testing"

	"concord/api"
	"concord/pack"
	"concord/span"
)

// get, put, del, swap and ranged are commands of a client, at its number 1.
func get(client int, key string) api.Command {
	return api.Command{Kind: api.KGet, Client: client, Seq: 1, Key: key}
}

func put(client int, key, value string) api.Command {
	return api.Command{Kind: api.KPut, Client: client, Seq: 1, Key: key, Value: value}
}

func del(client int, key string) api.Command {
	return api.Command{Kind: api.KDelete, Client: client, Seq: 1, Key: key}
}

func swap(client int, key, old, value string) api.Command {
	return api.Command{Kind: api.KSwap, Client: client, Seq: 1, Key: key, Old: old, Value: value}
}

func ranged(client int, from, end string) api.Command {
	return api.Command{Kind: api.KRange, Client: client, Seq: 1, Key: from, End: end}
}

// A reach is from the least to the greatest that may be.
type reach struct{ least, most int }

func (r reach) has(n int) bool { return n >= r.least && n <= r.most }

// A shape is of which lengths a Kind's texts may be.
type shape struct{ key, end, old, value reach }

// shapes are those of api's Kinds, in its order, from 1 on.
func shapes() []shape {
	none, key, value := reach{}, reach{1, 16}, reach{0, 64}
	return []shape{
		{key, none, none, none},
		{key, none, none, value},
		{key, none, none, none},
		{key, none, value, value},
		{reach{0, 16}, reach{0, 16}, none, none},
	}
}

// may is what Right must answer, by the shapes.
func may(c api.Command) bool {
	if c.Kind < 1 || c.Kind > 5 {
		return c == api.Command{}
	}
	s := shapes()[c.Kind-1]
	return reach{1, 8}.has(c.Client) && reach{1, 1 << 40}.has(c.Seq) &&
		s.key.has(len(c.Key)) && s.end.has(len(c.End)) && s.old.has(len(c.Old)) && s.value.has(len(c.Value))
}

// kinds are api's Kinds, none, and some that are none.
func kinds() []int {
	return []int{math.MinInt, -6, -1, 0, 1, 2, 3, 4, 5, 6, 7, 256 + 1, 1<<32 + 2, math.MaxInt}
}

func TestTheKindsAreApis(t *testing.T) { // the shapes and the bytes stand on them
	if api.KGet != 1 || api.KPut != 2 || api.KDelete != 3 || api.KSwap != 4 || api.KRange != 5 {
		t.Fatal("the Kinds have other numbers")
	}
}

func TestRight(t *testing.T) { // P5.1
	k16, v64 := strings.Repeat("k", 16), strings.Repeat("\xff", 64)
	for i, c := range []struct {
		c    api.Command
		want bool
	}{
		{api.Command{}, true},
		{get(1, "a"), true},
		{put(1, "a", ""), true},
		{put(8, k16, v64), true},
		{del(1, "\x00"), true},
		{swap(1, "a", "", ""), true},
		{swap(1, k16, v64, v64), true},
		{ranged(1, "", ""), true},
		{ranged(1, k16, k16), true},
		{ranged(1, "", "a"), true},
		{ranged(1, "c", "a"), true}, // a span without a key is a span
		{api.Command{Kind: api.KGet, Client: 1, Seq: 1 << 40, Key: "a"}, true},
		{api.Command{Kind: api.KGet, Client: 1, Seq: 1<<40 + 1, Key: "a"}, false},
		{api.Command{Kind: api.KGet, Client: 1, Seq: 0, Key: "a"}, false},
		{api.Command{Kind: api.KGet, Client: 1, Seq: -1, Key: "a"}, false},
		{get(0, "a"), false},
		{get(-1, "a"), false},
		{get(9, "a"), false},
		{get(1, ""), false},
		{put(1, "", "v"), false},
		{del(1, ""), false},
		{swap(1, "", "o", "v"), false},
		{get(1, k16+"k"), false},
		{put(1, k16+"k", ""), false},
		{put(1, "a", v64+"v"), false},
		{swap(1, "a", v64+"o", ""), false},
		{swap(1, "a", "", v64+"v"), false},
		{ranged(1, k16+"k", ""), false},
		{ranged(1, "", k16+"k"), false},
		{api.Command{Kind: 6, Client: 1, Seq: 1, Key: "a"}, false},
		{api.Command{Kind: -1, Client: 1, Seq: 1, Key: "a"}, false},
		{api.Command{Kind: 1}, false},
		{api.Command{Client: 1}, false},
		{api.Command{Seq: 1}, false},
		{api.Command{Key: "a"}, false},
		{api.Command{End: "a"}, false},
		{api.Command{Old: "a"}, false},
		{api.Command{Value: "a"}, false},
		{api.Command{Client: 1, Seq: 1, Key: "a"}, false},
	} {
		if got := Right(c.c); got != c.want || got != may(c.c) {
			t.Errorf("%d: Right(%+v) = %t", i, c.c, got)
		}
	}
}

// textsOf is a text of each length about a limit, one far above it, and the empty one.
func textsOf(most int) []string {
	return []string{"", "x", strings.Repeat("y", most-1), strings.Repeat("\x00", most), strings.Repeat("z", most+1), strings.Repeat("z", 1000)}
}

func TestRightGoesByEachField(t *testing.T) { // P5.1
	clients := []int{math.MinInt, -1, 0, 1, 8, 9, math.MaxInt}
	seqs := []int{math.MinInt, -1, 0, 1, 1 << 40, 1<<40 + 1, math.MaxInt}
	right := 0
	check := func(c api.Command) {
		got := Right(c)
		if got != may(c) {
			t.Fatalf("Right(%.200q) = %t", c.Key+" "+c.End+" "+c.Old+" "+c.Value, got)
		}
		if got {
			right++
		}
	}
	for _, kind := range kinds() {
		for _, client := range clients {
			for _, seq := range seqs {
				check(api.Command{Kind: kind, Client: client, Seq: seq})
				check(api.Command{Kind: kind, Client: client, Seq: seq, Key: "a"})
			}
		}
		for _, key := range textsOf(16) {
			for _, end := range textsOf(16) {
				for _, old := range textsOf(64) {
					for _, value := range textsOf(64) {
						check(api.Command{Kind: kind, Client: 3, Seq: 7, Key: key, End: end, Old: old, Value: value})
					}
				}
			}
		}
	}
	if right < 100 {
		t.Errorf("only %d were right: this says little", right)
	}
}

func TestKeys(t *testing.T) { // P5.2
	for i, c := range []struct {
		c    api.Command
		want api.Span
		some bool
	}{
		{get(1, "a"), api.Span{Lo: "a", Hi: "a\x00"}, true},
		{put(1, "a", "v"), api.Span{Lo: "a", Hi: "a\x00"}, true},
		{del(1, "b"), api.Span{Lo: "b", Hi: "b\x00"}, true},
		{swap(1, "c", "o", "v"), api.Span{Lo: "c", Hi: "c\x00"}, true},
		{ranged(1, "a", "c"), api.Span{Lo: "a", Hi: "c"}, true},
		{ranged(1, "a", ""), api.Span{Lo: "a"}, true},
		{ranged(1, "", "c"), api.Span{Hi: "c"}, true},
		{ranged(1, "", ""), api.Span{}, true},
		{ranged(1, "c", "a"), api.Span{Lo: "c", Hi: "a"}, true},
		{api.Command{}, api.Span{}, false},
		{api.Command{Key: "a", End: "b", Client: 1, Seq: 1}, api.Span{}, false},
		{api.Command{Kind: 6, Key: "a", End: "b"}, api.Span{}, false},
		{api.Command{Kind: -1, Key: "a", End: "b"}, api.Span{}, false},
		{api.Command{Kind: math.MinInt, Key: "a"}, api.Span{}, false},
		{api.Command{Kind: math.MaxInt, Key: "a"}, api.Span{}, false},
		// Of those that aren't right it is told by their Kind, too.
		{api.Command{Kind: api.KGet}, api.Span{Hi: "\x00"}, true},
		{api.Command{Kind: api.KPut, Client: -4, Key: strings.Repeat("k", 99), End: "z"}, span.Of(strings.Repeat("k", 99)), true},
		{api.Command{Kind: api.KRange, Key: "a", End: strings.Repeat("k", 99), Value: "v"}, api.Span{Lo: "a", Hi: strings.Repeat("k", 99)}, true},
	} {
		if got, some := Keys(c.c); got != c.want || some != c.some {
			t.Errorf("%d: Keys(%+v) = %q, %t", i, c.c, got, some)
		}
	}
}

func TestWrites(t *testing.T) { // P5.2
	for _, kind := range kinds() {
		want := kind == 2 || kind == 3 || kind == 4
		for _, c := range []api.Command{{Kind: kind}, {Kind: kind, Client: 1, Seq: 1, Key: "a"}, {Kind: kind, Value: "v", Old: "o", End: "e"}} {
			if got := Writes(c); got != want {
				t.Errorf("Writes(%+v) = %t", c, got)
			}
		}
	}
}

func TestClash(t *testing.T) { // P5.3 and the runs
	for i, c := range []struct {
		a, b api.Command
		want bool
	}{
		{put(1, "a", "v"), get(2, "a"), true},
		{get(1, "a"), get(2, "a"), false},
		{get(1, "a"), get(1, "b"), true},
		{put(2, "b", "v"), ranged(2, "a", "c"), true},
		{put(1, "b", "v"), ranged(2, "a", "c"), true},
		{put(1, "c", "v"), ranged(2, "a", "c"), false},
		{put(1, "b\xff", "v"), ranged(2, "a", "c"), true},
		{put(1, "z", "v"), ranged(2, "a", ""), true},
		{del(1, "a"), ranged(2, "c", "a"), false}, // no key is touched
		{ranged(1, "c", "a"), ranged(1, "c", "a"), true},
		{ranged(1, "", ""), ranged(2, "", ""), false},
		{ranged(1, "", ""), get(2, "a"), false},
		{ranged(1, "", ""), swap(2, "a", "o", "v"), true},
		{put(1, "a", "v"), put(2, "a", "v"), true},
		{put(1, "a", "v"), put(2, "a\x00", "v"), false},
		{put(1, "a", "v"), put(2, "b", "v"), false},
		{put(1, "a", "v"), put(1, "b", "v"), true},
		{del(1, "a"), get(2, "a"), true},
		{del(1, "a"), del(2, "a"), true},
		{swap(1, "a", "o", "v"), get(2, "a"), true},
		{swap(1, "a", "o", "v"), get(2, "b"), false},
		{api.Command{}, api.Command{}, false},
		{api.Command{}, put(1, "a", "v"), false},
		{api.Command{}, ranged(1, "", ""), false},
		{api.Command{Client: 1, Key: "a"}, put(1, "a", "v"), false},
		{api.Command{Kind: 6, Client: 1, Key: "a"}, put(1, "a", "v"), false},
		{api.Command{Kind: 6, Client: 1, Key: "a"}, api.Command{Kind: 6, Client: 1, Key: "a"}, false},
		{api.Command{Kind: -1, Client: 2, Key: "a"}, put(1, "a", "v"), false},
		// Those that aren't right are held against each other all the same.
		{api.Command{Kind: api.KGet}, api.Command{Kind: api.KGet}, true},
		{api.Command{Kind: api.KGet, Client: -1, Key: "a"}, api.Command{Kind: api.KPut, Client: 99, Key: "a"}, true},
	} {
		if Clash(c.a, c.b) != c.want || Clash(c.b, c.a) != c.want {
			t.Errorf("%d: Clash(%+v, %+v) = %t, and turned round %t", i, c.a, c.b, Clash(c.a, c.b), Clash(c.b, c.a))
		}
	}
}

// A touch is a command, and which of the keys it touches, as bits.
type touch struct {
	c    api.Command
	keys uint
}

// touches are commands of two clients, of each Kind and none; which keys they touch is told by the places of rising texts, not by the texts.
func touches() []touch {
	texts := []string{"", "\x00", "a", "a\x00", "a\x00\x00", "aa", "b", "\x7f", "\x80", "\xff"}
	l := []touch{{}}
	for client := 1; client <= 2; client++ {
		for lo, key := range texts {
			for _, c := range []api.Command{get(client, key), put(client, key, "v"), del(client, key), swap(client, key, "o", "v")} {
				l = append(l, touch{c, 1 << lo})
			}
			for hi, end := range texts {
				if hi == 0 {
					hi = len(texts) // no bound
				}
				var keys uint
				for k := lo; k < hi; k++ {
					keys |= 1 << k
				}
				l = append(l, touch{ranged(client, key, end), keys})
			}
			l = append(l, touch{api.Command{Kind: 6, Client: client, Seq: 1, Key: key}, 0})
		}
	}
	return l
}

func TestTwoClashByClientOrKeys(t *testing.T) { // P5.3, P5.5
	all := touches()
	for _, a := range all {
		for _, b := range all {
			does := reach{1, 5}.has(a.c.Kind) && reach{1, 5}.has(b.c.Kind)
			writes := reach{2, 4}.has(a.c.Kind) || reach{2, 4}.has(b.c.Kind)
			want := does && (a.c.Client == b.c.Client || writes && a.keys&b.keys != 0)
			if got := Clash(a.c, b.c); got != want {
				t.Fatalf("Clash(%+v, %+v) = %t", a.c, b.c, got)
			}
		}
	}
}

func TestClashIsMutual(t *testing.T) { // P5.5
	all := touches()
	for _, a := range all {
		if Clash(a.c, api.Command{}) || Clash(api.Command{}, a.c) {
			t.Errorf("%+v clashes with nothing", a.c)
		}
		if Writes(a.c) && !Clash(a.c, a.c) {
			t.Errorf("%+v writes, and doesn't clash with itself", a.c)
		}
		for _, b := range all {
			if Clash(a.c, b.c) != Clash(b.c, a.c) {
				t.Fatalf("%+v and %+v clash one way", a.c, b.c)
			}
		}
	}
}

// A written is a command that is right, and its bytes.
type written struct {
	c api.Command
	b string
}

func writtens() []written {
	k16, v64 := strings.Repeat("k", 16), strings.Repeat("\xfe", 64)
	most := api.Command{Kind: api.KSwap, Client: 8, Seq: 1 << 40, Key: k16, Old: v64, Value: v64}
	return []written{
		{api.Command{}, "\x00"},
		{api.Command{Kind: api.KGet, Client: 1, Seq: 2, Key: "a"}, "\x02\x02\x04\x02a"},
		{put(2, "ab", ""), "\x04\x04\x02\x04ab\x00"},
		{put(1, "a", "xyz"), "\x04\x02\x02\x02a\x06xyz"},
		{put(1, "a", v64), "\x04\x02\x02\x02a\x80\x01" + v64},
		{del(8, "\x00"), "\x06\x10\x02\x02\x00"},
		{swap(3, "a", "o", "vv"), "\x08\x06\x02\x02a\x02o\x04vv"},
		{swap(3, "a", "", ""), "\x08\x06\x02\x02a\x00\x00"},
		{most, "\x08\x10\x80\x80\x80\x80\x80\x40\x20" + k16 + "\x80\x01" + v64 + "\x80\x01" + v64},
		{ranged(1, "a", "c"), "\x0a\x02\x02\x02a\x02c"},
		{ranged(1, "", ""), "\x0a\x02\x02\x00\x00"},
		{ranged(1, k16, k16[:15]), "\x0a\x02\x02\x20" + k16 + "\x1e" + k16[:15]},
		{api.Command{Kind: api.KDelete, Client: 4, Seq: 64, Key: "é"}, "\x06\x08\x80\x01\x04\xc3\xa9"},
	}
}

func TestPut(t *testing.T) { // P5.4 and the runs
	for _, w := range writtens() {
		for _, ahead := range []string{"", "\x00", "\x80\xff", strings.Repeat("z", 1<<16)} {
			if got := Put([]byte(ahead), w.c); string(got) != ahead+w.b {
				t.Errorf("Put(%.10q, %+v) = %.60x", ahead, w.c, got)
			}
		}
		if got := Put(nil, w.c); string(got) != w.b {
			t.Errorf("Put(nil, %+v) = %x", w.c, got)
		}
	}
}

// wrongs are commands that aren't right.
func wrongs() []api.Command {
	k17, v65 := strings.Repeat("k", 17), strings.Repeat("v", 65)
	return []api.Command{
		get(0, "a"), get(9, "a"), get(1, ""), get(1, k17), put(1, "a", v65), swap(1, "a", v65, ""), ranged(1, "", k17),
		{Kind: 6, Client: 1, Seq: 1, Key: "a"}, {Kind: -1}, {Client: 1}, {Key: "a"}, {Kind: 1, Client: 1, Seq: 1<<40 + 1, Key: "a"},
		{Kind: 1, Client: 1, Seq: 1, Key: "a", Value: "v"}, {Kind: 5, Client: 1, Seq: 1, Old: "o"},
	}
}

func TestPutOfOneThatIsNotRight(t *testing.T) { // P5.4
	for _, c := range wrongs() {
		for _, ahead := range []string{"", "\x00", "ahead"} {
			if got := Put([]byte(ahead), c); string(got) != ahead {
				t.Errorf("Put(%q, %+v) = %x", ahead, c, got)
			}
		}
		if got := Put(nil, c); len(got) != 0 {
			t.Errorf("Put(nil, %+v) = %x", c, got)
		}
	}
}

// filled is the bytes with a room of a thousand behind them, each of which is 7.
func filled(b string) []byte {
	room := append([]byte(b), bytes.Repeat([]byte{7}, 1000)...)
	return room[:len(b)]
}

func TestPutAnswersNewMemory(t *testing.T) { // P5.4, R2, R5
	for _, c := range []api.Command{{}, get(1, "a"), swap(1, "a", "o", "v"), get(0, "a")} {
		for _, ahead := range []string{"", "ab"} {
			b := filled(ahead)
			one, two := Put(b, c), Put(b, put(2, "other", "value"))
			want := string(one)
			_ = append(two, "behind the other one"...)
			whole := one[:cap(one)]
			for i := range whole[len(one):] {
				whole[len(one)+i] = 9
			}
			if string(b) != ahead || !bytes.Equal(b[:cap(b)][len(b):len(b)+1000], bytes.Repeat([]byte{7}, 1000)) {
				t.Errorf("%+v: what was handed in is changed", c)
			}
			if string(one) != want {
				t.Errorf("%+v: changed by another one", c)
			}
			for i := range one {
				one[i] = 0
			}
			if string(b) != ahead {
				t.Errorf("%+v: the answer is what was handed in", c)
			}
		}
	}
}

func TestGetOfPutIsTheCommand(t *testing.T) { // P5.4, P5.5
	for _, w := range writtens() {
		for _, behind := range []string{"", "\x00", "\x80", "\xff\xff", "\x02a", w.b} {
			r := pack.Read([]byte("\x01" + w.b + behind))
			r.Flag()
			if got := Get(r); got != w.c || r.Wrong() != api.OK || r.At() != 1+len(w.b) {
				t.Errorf("Get of %.40x, %x behind: %+v, %d at %d", w.b, behind, got, r.Wrong(), r.At()-1)
			}
		}
	}
	for _, a := range touches() {
		r := pack.Read(Put(nil, a.c))
		want, why := a.c, api.OK
		if !may(a.c) {
			want, why = api.Command{}, api.ErrShort // nothing was written
		}
		if got := Get(r); got != want || r.End() != why {
			t.Errorf("Get of Put of %+v: %+v, %d", a.c, got, r.Wrong())
		}
	}
}

func TestOneBehindTheOther(t *testing.T) { // P5.4, P5.5
	var b []byte
	for _, w := range writtens() {
		b = Put(b, w.c)
	}
	r := pack.Read(b)
	for i, w := range writtens() {
		if got := Get(r); got != w.c {
			t.Errorf("%d: %+v, not %+v", i, got, w.c)
		}
	}
	if r.End() != api.OK {
		t.Errorf("the end: %d", r.Wrong())
	}
}

func TestGetOfOneCutOff(t *testing.T) { // P5.4
	for _, w := range writtens() {
		for cut := range w.b {
			r := pack.Read([]byte(w.b[:cut]))
			if got := Get(r); got != (api.Command{}) || r.Wrong() != api.ErrShort || r.At() > cut {
				t.Fatalf("%.40x up to %d: %+v, %d", w.b, cut, got, r.Wrong())
			}
		}
	}
}

func TestGetRefuses(t *testing.T) { // P5.4
	k16, k17 := strings.Repeat("k", 16), strings.Repeat("k", 17)
	v64, v65 := strings.Repeat("v", 64), strings.Repeat("v", 65)
	for i, c := range []struct {
		b   string
		why api.Errno
		at  int // of what it stays at: all that comes ahead was read
	}{
		{"", api.ErrShort, 0},
		{"\x80", api.ErrShort, 0},
		{"\x80\x00", api.ErrForm, 0},
		{"\x02\x80\x00\x02\x02a", api.ErrForm, 1},
		{"\x02\x02\x82\x00\x02a", api.ErrForm, 2},
		{"\x02\x02\x02\x82\x00a", api.ErrForm, 3},
		// A Key, End, Old, Value that is too long, or whose length is below 0.
		{"\x02\x02\x02\x22" + k17, api.ErrLong, 3},
		{"\x02\x02\x02\x01", api.ErrLong, 3},
		{"\x04\x02\x02\x22" + k17 + "\x00", api.ErrLong, 3},
		{"\x04\x02\x02\x02a\x82\x01" + v65, api.ErrLong, 5},
		{"\x08\x02\x02\x02a\x82\x01" + v65 + "\x00", api.ErrLong, 5},
		{"\x08\x02\x02\x02a\x00\x82\x01" + v65, api.ErrLong, 6},
		{"\x0a\x02\x02\x22" + k17 + "\x00", api.ErrLong, 3},
		{"\x0a\x02\x02\x00\x22" + k17, api.ErrLong, 4},
		{"\x0a\x02\x02\x00\x01", api.ErrLong, 4},
		// One that isn't right, all of it read.
		{"\x02\x00\x02\x02a", api.ErrForm, 5},
		{"\x02\x01\x02\x02a", api.ErrForm, 5},
		{"\x02\x12\x02\x02a", api.ErrForm, 5},
		{"\x02\x02\x00\x02a", api.ErrForm, 5},
		{"\x02\x02\x01\x02a", api.ErrForm, 5},
		{"\x02\x02\x82\x80\x80\x80\x80\x40\x02a", api.ErrForm, 10},
		{"\x02\x02\x02\x00", api.ErrForm, 4},
		{"\x04\x02\x02\x00\x02v", api.ErrForm, 6},
		{"\x06\x02\x02\x00", api.ErrForm, 4},
		{"\x08\x02\x02\x00\x02o\x02v", api.ErrForm, 8},
		{"\x08\x12\x02\x20" + k16 + "\x80\x01" + v64 + "\x80\x01" + v64, api.ErrForm, 20 + 66 + 66},
		{"\x0a\x00\x02\x00\x00", api.ErrForm, 5},
		// No Kind: it is asked for Client, Seq and Key, as of each but 0.
		{"\x0c\x02\x02\x02a", api.ErrForm, 5},
		{"\x01\x02\x02\x02a\x02v", api.ErrForm, 5},
		{"\x0c\x02\x02\x00", api.ErrForm, 4},
		{"\x0c", api.ErrShort, 1},
		{"\x0c\x02\x02", api.ErrShort, 3},
		{"\x0c\x02\x02\x22" + k17, api.ErrLong, 3},
		{"\xff\xff\xff\xff\xff\xff\xff\xff\xff\x01\x02\x02\x02a", api.ErrForm, 14},
	} {
		for _, behind := range []string{"", "\x02\x02"} {
			if behind != "" && c.why == api.ErrShort {
				continue
			}
			r := pack.Read([]byte("\x00" + c.b + behind))
			r.Flag()
			got := Get(r)
			if got != (api.Command{}) || r.Wrong() != c.why || r.At() != 1+c.at {
				t.Errorf("%d: Get of %.40x: %+v, %d at %d", i, c.b, got, r.Wrong(), r.At()-1)
			}
			if Get(r) != (api.Command{}) || r.Wrong() != c.why || r.At() != 1+c.at {
				t.Errorf("%d: again: %d at %d", i, r.Wrong(), r.At()-1)
			}
		}
	}
}

func TestAnErrorAheadStays(t *testing.T) { // P5.4
	for _, why := range []api.Errno{api.ErrForm, api.ErrLong, api.ErrTail} {
		for _, w := range writtens() {
			r := pack.Read([]byte("\x02" + w.b))
			switch why {
			case api.ErrForm:
				r.Fail()
			case api.ErrLong:
				r.Count(0)
			case api.ErrTail:
				r.End()
			}
			if got := Get(r); got != (api.Command{}) || r.Wrong() != why || r.At() != 0 {
				t.Errorf("behind %d: %+v, %d at %d", why, got, r.Wrong(), r.At())
			}
		}
	}
}

func TestGetOfNoReader(t *testing.T) { // R1
	if got := Get(nil); got != (api.Command{}) {
		t.Errorf("of none: %+v", got)
	}
	var r pack.Reader
	if got := Get(&r); got != (api.Command{}) || r.Wrong() != api.ErrShort {
		t.Errorf("of one without bytes: %+v, %d", got, r.Wrong())
	}
}

// oneForm reads a command, looks that what is taken is right and written so, and tells whether it was.
func oneForm(t *testing.T, b []byte) bool {
	t.Helper()
	r := pack.Read(b)
	c := Get(r)
	if r.Wrong() != api.OK {
		if c != (api.Command{}) {
			t.Fatalf("%x: %+v beside %d", b, c, r.Wrong())
		}
		return false
	}
	if !may(c) || !bytes.Equal(Put(nil, c), b[:r.At()]) {
		t.Fatalf("%x is taken as %+v", b, c)
	}
	return true
}

func TestWhatIsTakenIsWrittenSo(t *testing.T) { // P5.4, P5.5
	for _, w := range writtens() {
		for i := range w.b {
			for x := range 256 {
				b := []byte(w.b)
				b[i] = byte(x)
				oneForm(t, b)
			}
		}
	}
	edges := []byte{0, 1, 2, 4, 6, 8, 10, 12, 16, 18, 'a', 0x80, 0xff}
	chance, whole := uint64(1), 0
	for range 200000 {
		b := make([]byte, 8)
		for i := range b {
			chance = chance*6364136223846793005 + 1442695040888963407
			b[i] = edges[chance>>33%uint64(len(edges))]
		}
		b[0] &= 15
		if oneForm(t, b) {
			whole++
		}
	}
	if whole < 1000 {
		t.Errorf("only %d were taken: this says little", whole)
	}
}
