package sum

import (
	"bytes"
	"math"
	"strings"
	"testing"
)

// starts are sums to go on from: the first one's, the edges of the number and of its bytes, and some without a shape.
var starts = []uint32{0, 1, 0x7f, 0x80, 0xff, 0x100, 0xedb88320, 0x04c11db7, 0xcbf43926, 0x12345678, math.MaxInt32, 1 << 31, math.MaxUint32 - 1, math.MaxUint32}

// shapeless answers n bytes that follow no short rule to the eye, other ones for another seed.
func shapeless(n int, seed uint64) []byte {
	b := make([]byte, n)
	for k := range b {
		seed = seed*6364136223846793005 + 1442695040888963407
		b[k] = byte(seed >> 56)
	}
	return b
}

// samples are texts without bytes, of each single byte, of equal bytes, and of each length up to some.
func samples() [][]byte {
	l := [][]byte{nil, {}, []byte("123456789"), []byte("a\x00"), []byte("\x00a")}
	for b := range 256 {
		l = append(l, []byte{byte(b)})
	}
	for n := range 40 {
		l = append(l, make([]byte, n), bytes.Repeat([]byte{0xff}, n), shapeless(n, uint64(n)+1))
	}
	return l
}

// divided reckons the sum as what is left of a division of polynomials whose bits are listed one by one: nothing is moved.
func divided(c uint32, p []byte) uint32 {
	l := make([]int, 8*len(p)+32)
	for k := range 8 * len(p) {
		l[k] = int(p[k/8]) / (1 << (k % 8)) % 2
	}
	for k := range 32 {
		l[k] ^= 1 - int(uint64(c)/(1<<k)%2)
	}
	powers := []int{0, 6, 9, 10, 16, 20, 21, 22, 24, 25, 27, 28, 30, 31, 32} // behind x^32, which stands at 0
	for k := range 8 * len(p) {
		if l[k] == 0 {
			continue
		}
		for _, d := range powers {
			l[k+d] ^= 1
		}
	}
	var left uint32
	for k, b := range l[8*len(p):] {
		left += uint32(1-b) << k
	}
	return left
}

func TestOf(t *testing.T) { // P2.1 and the runs
	up := make([]byte, 32)
	for k := range up {
		up[k] = byte(k)
	}
	for _, c := range []struct {
		p    string
		want uint32
	}{
		{"123456789", 0xcbf43926},
		{"", 0},
		{"a", 0xe8b7be43},
		{"abc", 0x352441c2},
		{"\x00", 0xd202ef8d},
		{"\xff", 0xff000000},
		{"\xff\xff\xff\xff", 0xffffffff},
		{strings.Repeat("\x00", 32), 0x190a55ad},
		{strings.Repeat("\xff", 32), 0xff6cab0b},
		{string(up), 0x91267e8a},
		{"The quick brown fox jumps over the lazy dog", 0x414fa339},
	} {
		if got := Of([]byte(c.p)); got != c.want {
			t.Errorf("Of(%q) = %08x, not %08x", c.p, got, c.want)
		}
	}
	if Of(nil) != 0 || Of([]byte{}) != 0 {
		t.Error("the sum of nothing is not 0")
	}
}

func TestOfIsOnFromZero(t *testing.T) { // P2.1
	for _, p := range samples() {
		if Of(p) != On(0, p) {
			t.Errorf("Of(%x) = %08x, On(0, ..) = %08x", p, Of(p), On(0, p))
		}
	}
}

func TestOnIsTheDivisionsRest(t *testing.T) { // P2.1
	for _, c := range starts {
		for _, p := range samples() {
			if got, want := On(c, p), divided(c, p); got != want {
				t.Fatalf("On(%08x, %x) = %08x, not %08x", c, p, got, want)
			}
		}
	}
}

func TestOnOfNothingStays(t *testing.T) { // P2.1
	for _, c := range starts {
		if On(c, nil) != c || On(c, []byte{}) != c {
			t.Errorf("On(%08x, nothing) = %08x, %08x", c, On(c, nil), On(c, []byte{}))
		}
	}
}

func TestOnGoesOn(t *testing.T) { // P2.2
	for _, c := range starts {
		for _, whole := range samples() {
			want := On(c, whole)
			for cut := 0; cut <= len(whole); cut++ {
				if got := On(On(c, whole[:cut]), whole[cut:]); got != want {
					t.Fatalf("On(%08x, %x), cut at %d: %08x, not %08x", c, whole, cut, got, want)
				}
			}
		}
	}
}

func TestOnGoesOnByteByByte(t *testing.T) { // P2.2
	p := shapeless(1<<17+3, 7)
	var c uint32
	for k := range p {
		c = On(c, p[k:k+1])
	}
	if c != Of(p) {
		t.Errorf("%d bytes one by one: %08x, at once: %08x", len(p), c, Of(p))
	}
}

// turn turns the bits of p that mask has, from a bit's place on.
func turn(p []byte, place int, mask uint32) []byte {
	q := bytes.Clone(p)
	for k := range 32 {
		if mask>>k&1 == 1 {
			q[(place+k)/8] ^= 1 << ((place + k) % 8)
		}
	}
	return q
}

// masks are what is turned within 32 bits: each bit, each two, each run, all of 16 bits, and some without a shape.
func masks() []uint32 {
	var l []uint32
	for k := range 32 {
		for n := k; n < 32; n++ {
			l = append(l, 1<<k|1<<n, math.MaxUint32>>(31-n+k)<<k)
		}
	}
	for m := uint32(1); m < 1<<16; m++ {
		l = append(l, m)
	}
	for k, u := 0, uint32(9); k < 500; k++ {
		u = u*1664525 + 1013904223
		l = append(l, u|1)
	}
	return l
}

func TestWhatWasTurnedIsTold(t *testing.T) { // P2.2
	for _, p := range [][]byte{make([]byte, 5), bytes.Repeat([]byte{0xff}, 5), shapeless(5, 3)} {
		was := Of(p)
		for _, mask := range masks() {
			for _, place := range []int{0, 5, 8} {
				if Of(turn(p, place, mask)) == was {
					t.Fatalf("%x has the sum %08x too if %08x is turned from bit %d on", p, was, mask, place)
				}
			}
		}
	}
}

// independent tells whether no choice of l's numbers, but the empty one, comes to 0 when they are turned in one another.
func independent(l []uint32) bool {
	var by [32]uint32 // by their highest bits
	for _, u := range l {
		for k := 31; k >= 0 && u != 0; k-- {
			if u>>k&1 == 0 {
				continue
			}
			if by[k] == 0 {
				by[k] = u
				break
			}
			u ^= by[k]
		}
		if u == 0 {
			return false
		}
	}
	return true
}

// What a bit turns in the sum hangs on its place alone, so that 32 bits one behind the other, whichever of them are turned, never come to nothing if they are independent.
func TestNoChoiceOf32BitsComesToNothing(t *testing.T) { // P2.2
	for n := 1; n <= 64; n++ {
		p, q := make([]byte, n), shapeless(n, uint64(n))
		turns := make([]uint32, 8*n)
		for place := range turns {
			turns[place] = Of(p)
			p[place/8] ^= 1 << (place % 8)
			turns[place] ^= Of(p)
			q[place/8] ^= 1 << (place % 8)
			if got := Of(q) ^ Of(turn(q, place, 1)); got != turns[place] {
				t.Fatalf("bit %d of %d bytes turns %08x here, %08x there", place, n, got, turns[place])
			}
		}
		for place := range turns {
			if !independent(turns[place:min(place+32, len(turns))]) {
				t.Fatalf("of %d bytes some bits from %d on come to nothing", n, place)
			}
		}
	}
}

// turn's reading of a mask must be the promise's, else the tests of it would say nothing: bits beyond the text panic, the others are turned once.
func TestTurnTurnsWhatItSays(t *testing.T) {
	if got := turn([]byte{0, 0, 0, 0, 0}, 5, 1<<31|1<<3|1); !bytes.Equal(got, []byte{0x20, 1, 0, 0, 0x10}) {
		t.Errorf("%x", got)
	}
}

func TestNothingHandedInIsChangedNorReadBehind(t *testing.T) { // R2, R5
	room := []byte("123456789behind")
	if got := Of(room[:9]); got != 0xcbf43926 {
		t.Errorf("with room behind: %08x", got)
	}
	if got := On(Of(room[:4]), room[4:9]); got != 0xcbf43926 {
		t.Errorf("a part of a text: %08x", got)
	}
	if string(room) != "123456789behind" {
		t.Errorf("changed: %q", room)
	}
}
