package word

import (
	"bytes"
	"math"
	"slices"
	"testing"

	"concord/api"
)

const whole = math.MaxUint64

// counts are the bits, bytes and turns that the promises are tried with: each one's edges, and what is far off.
var counts = []int{math.MinInt, math.MinInt + 1, -1 << 32, -65, -64, -63, -8, -1, 0, 1, 2, 7, 8, 9, 31, 32, 33, 62, 63, 64, 65, 127, 128, 1 << 32, 1 << 62, math.MaxInt - 1, math.MaxInt}

// samples are numbers of each bit alone, of each run of low and of high bits, and some without a shape.
func samples() []uint64 {
	l := []uint64{0, 1, 0x123456789abcdef0, 0xedcba98765432101, 0x5555555555555555, 0xaaaaaaaaaaaaaaaa, 0x80000000ffffffff, 0x7fffffff00000000}
	for k := range 64 {
		l = append(l, 1<<k, 1<<k-1, ^uint64(0)<<k, 3<<k)
	}
	for k, u := 0, uint64(1); k < 200; k++ {
		u = u*6364136223846793005 + 1442695040888963407
		l = append(l, u)
	}
	return l
}

// bit tells the bit of u at a place by halving, not by shifting.
func bit(u uint64, place int) bool {
	for range place {
		u /= 2
	}
	return u%2 == 1
}

func TestLow(t *testing.T) { // P1.1 and the run
	for i, c := range []struct {
		u    uint64
		bits int
		want uint64
	}{
		{0x1ff, 8, 0xff},
		{whole, 0, 0},
		{whole, -1, 0},
		{whole, math.MinInt, 0},
		{whole, 1, 1},
		{whole, 32, 1<<32 - 1},
		{whole, 63, 1<<63 - 1},
		{whole, 64, whole},
		{whole, 65, whole},
		{1 << 63, math.MaxInt, 1 << 63},
		{1 << 63, 63, 0},
		{6, 2, 2},
	} {
		if got := Low(c.u, c.bits); got != c.want {
			t.Errorf("%d: Low(%x, %d) = %x", i, c.u, c.bits, got)
		}
	}
}

func TestLowKeepsTheLowestBitsAlone(t *testing.T) { // P1.1
	for _, u := range samples() {
		for _, n := range counts {
			got := Low(u, n)
			for place := range 64 {
				if want := place < n && bit(u, place); bit(got, place) != want {
					t.Fatalf("Low(%x, %d) = %x", u, n, got)
				}
			}
		}
	}
}

func TestSign(t *testing.T) { // P1.1 and the runs
	for i, c := range []struct {
		u    uint64
		bits int
		want int64
	}{
		{0xff, 8, -1},
		{0x7f, 8, 127},
		{0x80, 8, -128},
		{0x17f, 8, 127},
		{0x180, 8, -128},
		{whole, 0, 0},
		{whole, -1, 0},
		{whole, math.MinInt, 0},
		{1, 1, -1},
		{2, 1, 0},
		{1 << 31, 32, math.MinInt32},
		{1<<31 - 1, 32, math.MaxInt32},
		{1 << 62, 63, -1 << 62},
		{1<<62 - 1, 63, 1<<62 - 1},
		{1 << 63, 63, 0},
		{1 << 63, 64, math.MinInt64},
		{1<<63 - 1, 64, math.MaxInt64},
		{1 << 63, 65, math.MinInt64},
		{whole, math.MaxInt, -1},
	} {
		if got := Sign(c.u, c.bits); got != c.want {
			t.Errorf("%d: Sign(%x, %d) = %d", i, c.u, c.bits, got)
		}
	}
}

func TestSignCountsTheHighestBitAsTakenOff(t *testing.T) { // P1.1
	for _, u := range samples() {
		for n := 1; n <= 64; n++ {
			var want int64
			step := int64(1)
			for place := range n {
				if bit(u, place) && place < n-1 {
					want += step
				}
				if bit(u, place) && place == n-1 {
					want -= step
				}
				step *= 2
			}
			if got := Sign(u, n); got != want {
				t.Fatalf("Sign(%x, %d) = %d, not %d", u, n, got, want)
			}
		}
	}
}

func TestTurn(t *testing.T) { // P1.2 and the run
	for i, c := range []struct {
		u    uint64
		k    int
		want uint64
	}{
		{1, -1, 1 << 63},
		{1, 0, 1},
		{1, 1, 2},
		{1, 63, 1 << 63},
		{1, 64, 1},
		{1, 65, 2},
		{1, -64, 1},
		{1, -65, 1 << 63},
		{1 << 63, 1, 1},
		{0x123456789abcdef0, 4, 0x23456789abcdef01},
		{0x123456789abcdef0, -4, 0x0123456789abcdef},
		{0x123456789abcdef0, 32, 0x9abcdef012345678},
		{5, math.MinInt, 5},
		{5, math.MaxInt, 2 + 1<<63},
	} {
		if got := Turn(c.u, c.k); got != c.want {
			t.Errorf("%d: Turn(%x, %d) = %x", i, c.u, c.k, got)
		}
	}
}

func TestTurnMovesEachBit(t *testing.T) { // P1.2
	for _, u := range samples() {
		for _, k := range counts {
			up := (k%64 + 64) % 64
			got := Turn(u, k)
			for place := range 64 {
				if bit(got, (place+up)%64) != bit(u, place) {
					t.Fatalf("Turn(%x, %d) = %x", u, k, got)
				}
			}
		}
	}
}

func TestZigAndZag(t *testing.T) { // P1.3 and the runs
	for _, c := range []struct {
		n int
		u uint64
	}{
		{0, 0},
		{-1, 1},
		{1, 2},
		{-2, 3},
		{2, 4},
		{64, 128},
		{-64, 127},
		{-65, 129},
		{math.MaxInt32, 1<<32 - 2},
		{math.MinInt32, 1<<32 - 1},
		{1 << 40, 1 << 41},
		{1 << 62, 1 << 63},
		{math.MaxInt, whole - 1},
		{math.MinInt + 1, whole - 2},
		{math.MinInt, whole},
	} {
		if got := Zig(c.n); got != c.u {
			t.Errorf("Zig(%d) = %x", c.n, got)
		}
		if got := Zag(c.u); got != c.n {
			t.Errorf("Zag(%x) = %d", c.u, got)
		}
	}
}

func TestPut(t *testing.T) { // P1.4 and the run
	for i, c := range []struct {
		b    []byte
		n    int
		u    uint64
		want []byte
	}{
		{nil, 3, 0x010203, []byte{3, 2, 1}},
		{[]byte{}, 3, 0x010203, []byte{3, 2, 1}},
		{[]byte{9, 8}, 2, 0x0102, []byte{9, 8, 2, 1}},
		{[]byte{9}, 0, 7, []byte{9}},
		{[]byte{9}, -1, 7, []byte{9}},
		{[]byte{9}, math.MinInt, 7, []byte{9}},
		{nil, 0, 7, nil},
		{nil, 1, 0x1ff, []byte{0xff}},
		{nil, 2, 1, []byte{1, 0}},
		{nil, 7, 0x0102030405060708, []byte{8, 7, 6, 5, 4, 3, 2}},
		{nil, 8, 0x0102030405060708, []byte{8, 7, 6, 5, 4, 3, 2, 1}},
		{nil, 9, 0x0102030405060708, []byte{8, 7, 6, 5, 4, 3, 2, 1}},
		{[]byte{9}, math.MaxInt, 1 << 63, []byte{9, 0, 0, 0, 0, 0, 0, 0, 0x80}},
	} {
		if got := Put(c.b, c.n, c.u); !bytes.Equal(got, c.want) {
			t.Errorf("%d: Put(%x, %d, %x) = %x", i, c.b, c.n, c.u, got)
		}
	}
}

func TestPutAnswersNewMemory(t *testing.T) { // P1.4, R2
	for _, n := range []int{-1, 0, 1, 8, 9} {
		room := bytes.Repeat([]byte{5}, 40)
		b := room[:3]
		got := Put(b, n, whole)
		// All of the answer's memory is written on, its spare room too: none of it may be b's.
		got = got[:cap(got)]
		for i := range got {
			got[i] = 7
		}
		if !bytes.Equal(room, bytes.Repeat([]byte{5}, 40)) {
			t.Errorf("Put(b, %d, ..) shares b's memory: %x", n, room)
		}
	}
}

func TestGet(t *testing.T) { // P1.4 and the run
	b := []byte{1, 2, 3, 4, 5, 6, 7, 8, 0xff}
	for i, c := range []struct {
		b     []byte
		at, n int
		u     uint64
		why   api.Errno
	}{
		{[]byte{1, 2}, 0, 2, 0x0201, api.OK},
		{b, 0, 1, 1, api.OK},
		{b, 3, 3, 0x060504, api.OK},
		{b, 8, 1, 0xff, api.OK},
		{b, 0, 8, 0x0807060504030201, api.OK},
		{b, 1, 8, 0xff08070605040302, api.OK},
		{b, 2, 8, 0, api.ErrShort},
		{b, 8, 2, 0, api.ErrShort},
		{b, 9, 1, 0, api.ErrShort},
		{b, 10, 1, 0, api.ErrArg},
		{b, -1, 1, 0, api.ErrArg},
		{b, -1, 8, 0, api.ErrArg},
		{b, 0, 0, 0, api.ErrArg},
		{b, 0, -1, 0, api.ErrArg},
		{b, 0, 9, 0, api.ErrArg},
		{b, 9, 0, 0, api.ErrArg},
		{b, 9, 9, 0, api.ErrArg},
		{b, math.MaxInt, 8, 0, api.ErrArg},
		{b, math.MinInt, 8, 0, api.ErrArg},
		{b, 0, math.MaxInt, 0, api.ErrArg},
		{b, 0, math.MinInt, 0, api.ErrArg},
		{nil, 0, 1, 0, api.ErrShort},
		{[]byte{}, 0, 1, 0, api.ErrShort},
		{nil, 1, 1, 0, api.ErrArg},
		{nil, 0, 0, 0, api.ErrArg},
	} {
		if u, why := Get(c.b, c.at, c.n); u != c.u || why != c.why {
			t.Errorf("%d: Get(%x, %d, %d) = %x, %d", i, c.b, c.at, c.n, u, why)
		}
	}
}

func TestGetReadsNoSpareRoom(t *testing.T) { // P1.4, R2, R5
	room := []byte{1, 2, 3, 4}
	if u, why := Get(room[:1], 0, 2); u != 0 || why != api.ErrShort {
		t.Errorf("read behind the end: %x, %d", u, why)
	}
	if u, why := Get(room[:1], 2, 1); u != 0 || why != api.ErrArg {
		t.Errorf("a place behind the end: %x, %d", u, why)
	}
	if !slices.Equal(room, []byte{1, 2, 3, 4}) {
		t.Errorf("changed: %x", room)
	}
}

func TestKeyAndInst(t *testing.T) { // P1.5 and the run
	const low = 1<<32 - 1
	for _, c := range []struct {
		i    api.Inst
		u    uint64
		back api.Inst
	}{
		{api.Inst{Replica: 2, Slot: 5}, 2<<32 + 5, api.Inst{Replica: 2, Slot: 5}},
		{api.Inst{}, 0, api.Inst{}},
		{api.Inst{Replica: 1}, 1 << 32, api.Inst{Replica: 1}},
		{api.Inst{Slot: 1}, 1, api.Inst{Slot: 1}},
		{api.Inst{Replica: api.MaxNodes - 1, Slot: api.MaxSlot}, 6<<32 + 1<<30, api.Inst{Replica: 6, Slot: 1 << 30}},
		{api.Inst{Replica: low, Slot: low}, whole, api.Inst{Replica: low, Slot: low}},
		{api.Inst{Replica: 1 << 31, Slot: 1 << 31}, 1<<63 + 1<<31, api.Inst{Replica: 1 << 31, Slot: 1 << 31}},
		{api.Inst{Replica: 1 << 32, Slot: 1 << 32}, 0, api.Inst{}},
		{api.Inst{Replica: 3<<32 + 4, Slot: 5<<32 + 6}, 4<<32 + 6, api.Inst{Replica: 4, Slot: 6}},
		{api.Inst{Replica: -1, Slot: 5}, low<<32 + 5, api.Inst{Replica: low, Slot: 5}},
		{api.Inst{Replica: 5, Slot: -1}, 5<<32 + low, api.Inst{Replica: 5, Slot: low}},
		{api.Inst{Replica: math.MinInt, Slot: math.MinInt + 2}, 2, api.Inst{Slot: 2}},
	} {
		if got := Key(c.i); got != c.u {
			t.Errorf("Key(%d) = %x", c.i, got)
		}
		if got := Inst(c.u); got != c.back {
			t.Errorf("Inst(%x) = %d", c.u, got)
		}
	}
}

func TestWhatWasWrittenComesBack(t *testing.T) { // P1.6
	for _, u := range samples() {
		if got := Zig(Zag(u)); got != u {
			t.Fatalf("Zig(Zag(%x)) = %x", u, got)
		}
		if got := Zag(Zig(int(u))); got != int(u) {
			t.Fatalf("Zag(Zig(%d)) = %d", int(u), got)
		}
		if got := Key(Inst(u)); got != u {
			t.Fatalf("Key(Inst(%x)) = %x", u, got)
		}
		i := api.Inst{Replica: int(u >> 40), Slot: int(u & (1<<32 - 1))}
		if got := Inst(Key(i)); got != i {
			t.Fatalf("Inst(Key(%d)) = %d", i, got)
		}
		for n := 1; n <= 8; n++ {
			b := Put([]byte{9, 9, 9}, n, u)
			if got, why := Get(b, 3, n); got != Low(u, 8*n) || why != api.OK {
				t.Fatalf("Get of Put of %d bytes of %x: %x, %d", n, u, got, why)
			}
		}
	}
}

func TestTurnsUndoEachOther(t *testing.T) { // P1.6
	for _, u := range samples() {
		for _, k := range counts {
			if got := Turn(Turn(u, k), 64-k); got != u {
				t.Fatalf("%x, turned by %d and back: %x", u, k, got)
			}
			if got := Turn(Turn(u, 64-k), k); got != u {
				t.Fatalf("%x, turned back by %d and forth: %x", u, k, got)
			}
		}
	}
}
