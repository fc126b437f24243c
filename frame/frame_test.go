package frame

import (
	"bytes"
	"hash/crc32"
	"math"
	"testing"

	"concord/api"
)

// shapeless answers n bytes that follow no short rule to the eye, other ones for another seed.
func shapeless(n int, seed uint64) []byte {
	b := make([]byte, n)
	for k := range b {
		seed = seed*6364136223846793005 + 1442695040888963407
		b[k] = byte(seed >> 56)
	}
	return b
}

// written is the payload's frame by the chapter's words, by division, with a sum that isn't the project's own.
func written(payload []byte) []byte {
	f := []byte{byte(len(payload) % 256), byte(len(payload) / 256)}
	f = append(f, payload...)
	c := crc32.ChecksumIEEE(f)
	for range 4 {
		f = append(f, byte(c%256))
		c /= 256
	}
	return f
}

// row is the payloads' frames one behind the other, and where each begins; the last place is where all end.
func row(payloads ...[]byte) (b []byte, begins []int) {
	for _, p := range payloads {
		begins = append(begins, len(b))
		b = append(b, written(p)...)
	}
	return b, append(begins, len(b))
}

// payloads are of each byte, of bytes that look like frames, and of lengths about the edges of a byte and of the limit.
func payloads() [][]byte {
	l := [][]byte{[]byte("ab"), {2, 0}, {0, 0}, {0xff, 0xff}, written([]byte("ab")), written(written([]byte("x")))}
	for b := range 256 {
		l = append(l, []byte{byte(b)})
	}
	for _, n := range []int{2, 3, 4, 5, 127, 128, 254, 255, 256, 257, 511, 512, 513, 4095, 4096, 4097, 16382, 16383, 16384} {
		l = append(l, make([]byte, n), bytes.Repeat([]byte{0xff}, n), shapeless(n, uint64(n)))
	}
	return l
}

// next asks Next, and tells what isn't as it must be.
func next(t *testing.T, b []byte, at int, want []byte, end int, why api.Errno) {
	t.Helper()
	p, e, w := Next(b, at)
	if !bytes.Equal(p, want) || e != end || w != why {
		t.Fatalf("Next(%x, %d) = %x, %d, %d, not %x, %d, %d", b[:min(len(b), 40)], at, p[:min(len(p), 40)], e, w, want[:min(len(want), 40)], end, why)
	}
}

// refused asks Next of what it must refuse: beside an error nothing is told.
func refused(t *testing.T, b []byte, at int, why api.Errno) {
	t.Helper()
	next(t, b, at, nil, 0, why)
}

// scanned asks Scan, and tells what isn't as it must be.
func scanned(t *testing.T, b []byte, want [][]byte, end int) {
	t.Helper()
	l, e := Scan(b)
	if e != end || len(l) != len(want) {
		t.Fatalf("Scan of %d bytes: %d payloads, up to %d, not %d, up to %d", len(b), len(l), e, len(want), end)
	}
	for k := range want {
		if !bytes.Equal(l[k], want[k]) {
			t.Fatalf("Scan of %d bytes: payload %d is %x, not %x", len(b), k, l[k], want[k])
		}
	}
}

func TestTheLimitIsApis(t *testing.T) { // the tables are written with it
	if api.MaxRecord != 16384 {
		t.Fatal("MaxRecord is another number")
	}
}

func TestRuns(t *testing.T) { // the chapter's runs
	f := Put(nil, []byte("ab"))
	if len(f) != 8 {
		t.Errorf("%x has %d bytes", f, len(f))
	}
	next(t, f, 0, []byte("ab"), 8, api.OK)
	refused(t, []byte{0, 0, 0, 0}, 0, api.ErrForm)
	refused(t, f[:7], 0, api.ErrShort)
}

func TestPutByteByByte(t *testing.T) { // P9.1: the length's two bytes and the sum's four, the lowest first
	for _, c := range []struct {
		payload string
		want    []byte
	}{
		{"ab", []byte{0x02, 0x00, 'a', 'b', 0x05, 0x4d, 0x17, 0x54}},
		{"\x00", []byte{0x01, 0x00, 0x00, 0x25, 0xb3, 0x83, 0xfe}},
	} {
		if got := Put(nil, []byte(c.payload)); !bytes.Equal(got, c.want) {
			t.Errorf("Put(nothing, %q) = %x, not %x", c.payload, got, c.want)
		}
	}
	f := Put([]byte{}, shapeless(0x1234, 1))
	if f[0] != 0x34 || f[1] != 0x12 || len(f) != 0x1234+6 {
		t.Errorf("of 1234 bytes: %x, %d bytes in all", f[:2], len(f))
	}
}

func TestPut(t *testing.T) { // P9.1
	for _, b := range [][]byte{nil, {}, {0}, []byte("ahead"), written([]byte("one")), shapeless(300, 2)} {
		for _, p := range payloads() {
			want := append(bytes.Clone(b), written(p)...)
			if got := Put(b, p); !bytes.Equal(got, want) {
				t.Fatalf("Put(%x, %d bytes) is of %d bytes, not those of %d", b, len(p), len(got), len(want))
			}
		}
	}
}

func TestPutOfManyLengths(t *testing.T) { // P9.1, P9.2: 1 to MaxRecord
	all := shapeless(api.MaxRecord, 3)
	for n := 1; n <= api.MaxRecord; n += 1 + n/64 {
		f := Put(nil, all[:n])
		if !bytes.Equal(f, written(all[:n])) {
			t.Fatalf("of %d bytes: another frame", n)
		}
		next(t, f, 0, all[:n], n+6, api.OK)
	}
}

func TestPutOfNoRecordPutsNone(t *testing.T) { // P9.1
	for _, b := range [][]byte{nil, {}, []byte("ahead"), shapeless(300, 4)} {
		// The lengths behind 65,535 are those of which two bytes alone would look right.
		for _, n := range []int{0, 16385, 16386, 32768, 65535, 65536, 65537, 65538, 65536 + 16384, 1 << 20} {
			if got := Put(b, make([]byte, n)); !bytes.Equal(got, b) {
				t.Errorf("Put(%d bytes, %d bytes) is of %d bytes", len(b), n, len(got))
			}
		}
		if got := Put(b, nil); !bytes.Equal(got, b) {
			t.Errorf("Put(%d bytes, nil) is of %d bytes", len(b), len(got))
		}
	}
}

// spoil writes over all of a list, its spare room too.
func spoil(b []byte) {
	b = b[:cap(b)]
	for k := range b {
		b[k] ^= 0xa5
	}
}

func TestPutAnswersNewMemory(t *testing.T) { // P9.1, R2, R5: also where no frame is put
	for _, n := range []int{0, 1, 2, 90, api.MaxRecord, api.MaxRecord + 1} {
		room := shapeless(100, 5)
		payload := shapeless(n+50, 6)
		wasRoom, wasPayload := bytes.Clone(room), bytes.Clone(payload)
		got := Put(room[:5], payload[:n])
		if !bytes.Equal(room, wasRoom) || !bytes.Equal(payload, wasPayload) {
			t.Fatalf("a payload of %d bytes: what was handed in is changed", n)
		}
		if !bytes.Equal(got[:5], wasRoom[:5]) {
			t.Fatalf("a payload of %d bytes: %x ahead of it", n, got[:5])
		}
		spoil(got)
		if !bytes.Equal(room, wasRoom) || !bytes.Equal(payload, wasPayload) {
			t.Fatalf("a payload of %d bytes: the answer shares memory", n)
		}
	}
}

func TestPutOfAPayloadInTheSpareRoom(t *testing.T) { // P9.1, R2: of one list both
	room := []byte("aheadpayloadbehind")
	want := append([]byte("ahead"), written([]byte("payload"))...)
	if got := Put(room[:5], room[5:12]); !bytes.Equal(got, want) {
		t.Errorf("%q", got)
	}
	want = append([]byte("aheadpayload"), written([]byte("headpay"))...)
	if got := Put(room[:12], room[1:8]); !bytes.Equal(got, want) {
		t.Errorf("%q", got)
	}
	if string(room) != "aheadpayloadbehind" {
		t.Errorf("changed: %q", room)
	}
}

func TestNext(t *testing.T) { // P9.2
	for _, p := range payloads() {
		for _, ahead := range [][]byte{nil, {0}, []byte("ahead"), written([]byte("one"))} {
			for _, behind := range [][]byte{nil, {0}, []byte("behind"), written([]byte("two"))} {
				f := append(append(bytes.Clone(ahead), written(p)...), behind...)
				next(t, f, len(ahead), p, len(ahead)+len(p)+6, api.OK)
			}
		}
	}
}

func TestNextOfNoPlace(t *testing.T) { // P9.2: ErrArg, ahead of all others
	for _, b := range [][]byte{nil, {}, {0}, {0, 0, 0, 0}, written([]byte("ab"))} {
		for _, at := range []int{-1, -2, -8, math.MinInt, math.MinInt32, len(b) + 1, len(b) + 2, math.MaxInt32, math.MaxInt - 1, math.MaxInt} {
			refused(t, b, at, api.ErrArg)
		}
	}
	room := written([]byte("abcdef"))
	refused(t, room[:3], 4, api.ErrArg)
}

func TestNextOfNoLength(t *testing.T) { // P9.2: ErrShort, at the end itself too
	refused(t, nil, 0, api.ErrShort)
	refused(t, []byte{}, 0, api.ErrShort)
	f := written([]byte("ab"))
	refused(t, f, len(f), api.ErrShort)
	for b := range 256 {
		refused(t, []byte{byte(b)}, 0, api.ErrShort)
		refused(t, []byte{9, 9, byte(b)}, 2, api.ErrShort)
	}
}

func TestNextOfEachNumber(t *testing.T) { // P9.2: ErrForm ahead of ErrShort and ErrSum
	long := make([]byte, 65536+6)
	for n := range 65536 {
		b := []byte{byte(n % 256), byte(n / 256)}
		copy(long, b)
		if n == 0 || n > 16384 {
			refused(t, b, 0, api.ErrForm)
			refused(t, append(b, 0), 0, api.ErrForm)
			refused(t, long, 0, api.ErrForm)
			continue
		}
		refused(t, b, 0, api.ErrShort)
		refused(t, long[:n+5], 0, api.ErrShort)
	}
	// Whole but for their numbers: with sums that are right.
	refused(t, written(nil), 0, api.ErrForm)
	refused(t, written(make([]byte, 16385)), 0, api.ErrForm)
	refused(t, written(make([]byte, 65535)), 0, api.ErrForm)
	next(t, written(make([]byte, 16384)), 0, make([]byte, 16384), 16390, api.OK)
}

func TestNextOfWhatIsCutOff(t *testing.T) { // P9.2: ErrShort, ahead of ErrSum
	for _, p := range payloads() {
		if len(p) > 600 {
			continue
		}
		f := append([]byte("ahead"), written(p)...)
		wrong := bytes.Clone(f)
		wrong[7] ^= 1
		for n := 5; n < len(f); n++ {
			// What stands in the spare room would make it whole.
			refused(t, f[:n], 5, api.ErrShort)
			refused(t, wrong[:n], 5, api.ErrShort)
		}
	}
}

func TestNextOfAWrongSum(t *testing.T) { // P9.2
	p := []byte("payload")
	f := written(p)
	n := len(f)
	for k := n - 4; k < n; k++ {
		for turned := 1; turned < 256; turned++ {
			wrong := bytes.Clone(f)
			wrong[k] ^= byte(turned)
			refused(t, wrong, 0, api.ErrSum)
		}
	}
	highest := append(bytes.Clone(f[:n-4]), f[n-1], f[n-2], f[n-3], f[n-4])
	refused(t, highest, 0, api.ErrSum)
	// Sums of other things: of the payload alone, and of what stands ahead, too.
	refused(t, append(bytes.Clone(f[:n-4]), sumBytes(crc32.ChecksumIEEE(p))...), 0, api.ErrSum)
	ahead := append([]byte("ahead"), f[:n-4]...)
	refused(t, append(ahead, sumBytes(crc32.ChecksumIEEE(ahead))...), 5, api.ErrSum)
	refused(t, append(bytes.Clone(f[:n-4]), 0, 0, 0, 0), 0, api.ErrSum)
}

// sumBytes is a sum's four bytes.
func sumBytes(c uint32) []byte {
	return []byte{byte(c), byte(c >> 8), byte(c >> 16), byte(c >> 24)}
}

func TestNextAnswersNewMemory(t *testing.T) { // P9.2, R2
	for _, n := range []int{1, 2, 7, 8, 9, 100, api.MaxRecord} {
		p := shapeless(n, 7)
		b, _ := row([]byte("one"), p, []byte("three"))
		was := bytes.Clone(b)
		got, _, why := Next(b, 9)
		if why != api.OK || !bytes.Equal(b, was) {
			t.Fatalf("%d bytes: %d, or the bytes are changed", n, why)
		}
		spoil(got)
		if !bytes.Equal(b, was) {
			t.Fatalf("%d bytes: the answer shares memory", n)
		}
		again, _, _ := Next(b, 9)
		spoil(b)
		if !bytes.Equal(again, p) {
			t.Fatalf("%d bytes: the answer is changed with the bytes", n)
		}
	}
}

func TestScan(t *testing.T) { // P9.3, P9.4
	scanned(t, nil, nil, 0)
	scanned(t, []byte{}, nil, 0)
	scanned(t, []byte{1}, nil, 0)
	scanned(t, []byte("no frame"), nil, 0)
	all := payloads()
	b, begins := row(all...)
	scanned(t, b, all, len(b))
	for n := range 6 {
		some, _ := row(all[:n]...)
		scanned(t, some, all[:n], begins[n])
	}
	var put []byte
	for _, p := range all[:40] {
		put = Put(put, p)
	}
	scanned(t, put, all[:40], begins[40])
}

func TestScanEndsWhereNextRefuses(t *testing.T) { // P9.3: frames behind that place don't count
	one, three := []byte("one"), []byte("three")
	for _, wrong := range [][]byte{
		{0},                                    // ErrShort; in the midst by the number that it makes of what follows
		{0, 0},                                 // ErrForm
		written(nil),                           // ErrForm
		written(make([]byte, 16385)),           // ErrForm
		append([]byte{1, 64}, written(one)...), // ErrForm
		append([]byte{0, 64}, written(one)...), // ErrShort
		{3, 0, 'o', 'n', 'e', 0, 0, 0, 0},      // ErrSum
	} {
		scanned(t, wrong, nil, 0)
		b, _ := row(one, three)
		at := len(b)
		b = append(append(b, wrong...), written(three)...)
		scanned(t, b, [][]byte{one, three}, at)
	}
}

func TestScanSkipsNothingAhead(t *testing.T) { // P9.3: from 0 on
	scanned(t, append([]byte{0}, written([]byte("one"))...), nil, 0)
	scanned(t, append([]byte{9}, written([]byte("one"))...), nil, 0)
}

func TestScanAnswersNewMemory(t *testing.T) { // P9.3, R2: of each payload
	want := [][]byte{[]byte("one"), []byte("2"), shapeless(70, 8), []byte("one"), []byte("5")}
	b, _ := row(want...)
	was := bytes.Clone(b)
	l, _ := Scan(b)
	for k := range l {
		for m := range l {
			if !bytes.Equal(l[m], want[m]) {
				t.Fatalf("payload %d is changed with payload %d", m, k-1)
			}
		}
		spoil(l[k])
		if !bytes.Equal(b, was) {
			t.Fatalf("payload %d shares memory with the bytes", k)
		}
		spoil(l[k])
	}
	spoil(b)
	for m := range l {
		if !bytes.Equal(l[m], want[m]) {
			t.Fatalf("payload %d is changed with the bytes", m)
		}
	}
}

// some are rows of frames to tear and to turn.
func some() [][][]byte {
	return [][][]byte{
		{[]byte("a")},
		{[]byte("one"), []byte("2"), []byte("three")},
		{{0}, {0, 0}, {1, 0}, {1, 0, 0}},
		{written([]byte("ab")), {0xff}, written(written([]byte("c")))},
		{shapeless(255, 9), shapeless(256, 10), shapeless(257, 11), []byte("x")},
	}
}

func TestWholeFramesAreFoundWhereverItIsCut(t *testing.T) { // P9.4
	for _, l := range some() {
		b, begins := row(l...)
		whole := 0
		for n := 0; n <= len(b); n++ {
			if n == begins[whole+1] {
				whole++
			}
			// With what was cut off in the spare room, and without.
			scanned(t, b[:n], l[:whole], begins[whole])
			scanned(t, bytes.Clone(b[:n]), l[:whole], begins[whole])
			if whole == len(l) {
				break
			}
		}
	}
}

// masks are what is turned within 32 bits: each one, each two, each run, all of the lowest 8, and some without a shape.
func masks() []uint32 {
	var l []uint32
	for k := range 32 {
		for n := k; n < 32; n++ {
			l = append(l, 1<<k|1<<n, math.MaxUint32>>(31-n+k)<<k)
		}
	}
	for m := uint32(1); m < 1<<8; m++ {
		l = append(l, m)
	}
	for k, u := 0, uint32(9); k < 500; k++ {
		u = u*1664525 + 1013904223
		l = append(l, u|1)
	}
	return l
}

// turn answers b with those bits turned that mask has, from a bit's place on; false, if one lies behind the bytes.
func turn(b []byte, place int, mask uint32) ([]byte, bool) {
	q := bytes.Clone(b)
	for k := range 32 {
		if mask>>k&1 == 0 {
			continue
		}
		if (place+k)/8 >= len(q) {
			return nil, false
		}
		q[(place+k)/8] ^= 1 << ((place + k) % 8)
	}
	return q, true
}

func TestWhatWasTurnedIsNotFound(t *testing.T) { // P9.4: behind the first two bytes, the sum's own and those about its edge too
	for _, p := range [][]byte{{0}, []byte("ab"), shapeless(9, 12)} {
		f := written(p)
		for place := 16; place < 8*len(f); place++ {
			for _, mask := range masks() {
				wrong, is := turn(f, place, mask)
				if !is {
					continue
				}
				refused(t, wrong, 0, api.ErrSum)
			}
		}
	}
}

func TestNothingBehindWhatWasTurnedIsFound(t *testing.T) { // P9.3, P9.4
	l := [][]byte{[]byte("one"), []byte("2"), []byte("three")}
	b, begins := row(l...)
	for k := range l {
		for place := 8 * (begins[k] + 2); place < 8*begins[k+1]; place++ {
			wrong, _ := turn(b, place, 1)
			scanned(t, wrong, l[:k], begins[k])
		}
	}
}

// plain is Next by the chapter's words, one by one.
func plain(b []byte, at int) ([]byte, int, api.Errno) {
	if at < 0 || at > len(b) {
		return nil, 0, api.ErrArg
	}
	rest := b[at:]
	if len(rest) < 2 {
		return nil, 0, api.ErrShort
	}
	n := int(rest[0]) + 256*int(rest[1])
	if n == 0 || n > 16384 {
		return nil, 0, api.ErrForm
	}
	if len(rest)-2 < n+4 {
		return nil, 0, api.ErrShort
	}
	if !bytes.Equal(rest[:n+6], written(rest[2:n+2])) {
		return nil, 0, api.ErrSum
	}
	return rest[2 : n+2], at + n + 6, api.OK
}

func TestNextAndScanOfWhatIsChangedAnywhere(t *testing.T) { // P9.2, P9.3: the first two bytes of a frame, too
	for _, l := range some() {
		b, _ := row(l...)
		for k := 0; k < len(b); k += 1 + len(b)/60 {
			for turned := 1; turned < 256; turned++ {
				wrong := bytes.Clone(b)
				wrong[k] ^= byte(turned)
				var want [][]byte
				end := 0
				for {
					p, e, why := plain(wrong, end)
					next(t, wrong, end, p, e, why)
					if why != api.OK {
						break
					}
					want, end = append(want, p), e
				}
				scanned(t, wrong, want, end)
			}
		}
	}
}

func TestNextOfEachPlace(t *testing.T) { // P9.2: in the midst of frames, too
	for _, l := range some() {
		b, _ := row(l...)
		for at := -3; at < len(b)+3; at++ {
			p, e, why := plain(b, at)
			next(t, b, at, p, e, why)
		}
	}
	// A payload that is a frame is found where it stands.
	b, _ := row(written([]byte("ab")))
	next(t, b, 2, []byte("ab"), 10, api.OK)
}

func TestAnswersHangOnWhatWasGiven(t *testing.T) { // R4
	if !bytes.Equal(Put(nil, []byte("ab")), Put([]byte{}, []byte("ab"))) {
		t.Error("nil and nothing are two things")
	}
	b, _ := row(some()[4]...)
	l, end := Scan(b)
	for range 3 {
		scanned(t, b, l, end)
	}
}

// turn's reading of a mask must be the promise's, else the tests of it would say nothing.
func TestTurnTurnsWhatItSays(t *testing.T) {
	if got, is := turn([]byte{0, 0, 0, 0, 0}, 5, 1<<31|1<<3|1); !is || !bytes.Equal(got, []byte{0x20, 1, 0, 0, 0x10}) {
		t.Errorf("%x, %t", got, is)
	}
	if _, is := turn([]byte{0}, 7, 2); is {
		t.Error("a bit behind the bytes is turned")
	}
}
