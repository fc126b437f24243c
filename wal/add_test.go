package wal

import (
	"strconv"
	"testing"

	"concord/api"
	"concord/disk"
)

// wrongs are lists of which one record may not be, at each place.
func wrongs() [][][]byte {
	right, long := []byte("r"), make([]byte, api.MaxRecord+1)
	var l [][][]byte
	for _, wrong := range [][]byte{nil, {}, long, make([]byte, 1<<16), make([]byte, 0, 9)} {
		l = append(l, [][]byte{wrong}, [][]byte{wrong, right}, [][]byte{right, wrong}, [][]byte{right, wrong, right}, [][]byte{wrong, wrong})
	}
	return l
}

// spent tells, if the disk has any of its armed changes left.
func spent(t *testing.T, d *disk.Disk) {
	t.Helper()
	if d.Off() {
		t.Fatal("one change too many")
	}
	if d.Append("probe", nil) == api.OK {
		t.Fatal("a change is left")
	}
}

func TestAddWritesFrames(t *testing.T) { // P10.4: one Append, one Sync
	d := having(t, roomy)
	w := opened(t, d, 0, 0)
	is(t, w.Anew(), api.OK)
	d.Arm(2)
	is(t, w.Add(list("one")...), api.OK)
	spent(t, d)
	hasKept(t, d, file{"log.1.1", noRecords + row("one")})
	d.Arm(2)
	is(t, w.Add(list("two", "three", "\x00", "two")...), api.OK)
	spent(t, d)
	hasKept(t, d, file{"log.1.1", noRecords + row("one", "two", "three", "\x00", "two")})
	writes(t, w, 1, 1)
	opened(t, d, 1, 1, "one", "two", "three", "\x00", "two")
}

func TestAddOfNothing(t *testing.T) { // P10.4: ErrNone is asked ahead of it
	d := having(t, roomy)
	w := opened(t, d, 0, 0)
	is(t, w.Add(), api.ErrNone)
	is(t, w.Add([]byte{}), api.ErrNone)
	is(t, w.Anew(), api.OK)
	d.Arm(0)
	is(t, w.Add(), api.OK)
	is(t, w.Add([][]byte{}...), api.OK)
	if d.Off() {
		t.Error("something was changed")
	}
	is(t, d.Sync("log.1.1"), api.ErrDown)
	is(t, w.Add(), api.OK)
	d.Crash()
	is(t, w.Add(list("a")...), api.OK)
	is(t, w.Add(), api.OK)
	writes(t, w, 1, 1)
	has(t, d, file{"log.1.1", noRecords + row("a")})
}

func TestAddRefusesRecords(t *testing.T) { // P10.4
	d := having(t, roomy)
	w := opened(t, d, 0, 0)
	for _, l := range wrongs() {
		is(t, w.Add(l...), api.ErrNone)
	}
	is(t, w.Anew(list("a")...), api.OK)
	d.Arm(0)
	for _, l := range wrongs() {
		is(t, w.Add(l...), api.ErrArg)
	}
	if d.Off() {
		t.Error("something was changed")
	}
	d.Arm(-1)
	has(t, d, file{"log.1.1", segmentOf("a")})
	is(t, w.Add(list(filling(1), filling(api.MaxRecord))...), api.OK)
	opened(t, d, 1, 1, "a", filling(1), filling(api.MaxRecord))
}

func TestAddTakesTheNextSegment(t *testing.T) { // P10.4: if more than MaxSegment bytes stand there
	for _, c := range []struct{ size, segment int }{{4094, 1}, {4095, 1}, {4096, 1}, {4097, 2}, {4098, 2}, {9000, 2}} {
		// The head's frame has 7 bytes, a frame six more than its payload.
		first := segmentOf() + row(filling(c.size-7-6))
		if len(first) != c.size {
			t.Fatalf("%d bytes, not %d", len(first), c.size)
		}
		for _, reopened := range []bool{false, true} {
			d := having(t, roomy)
			w := opened(t, d, 0, 0)
			is(t, w.Anew(), api.OK)
			is(t, w.Add(list(filling(c.size-7-6))...), api.OK)
			writes(t, w, 1, 1)
			if reopened {
				w = opened(t, d, 1, 1, filling(c.size-7-6))
			}
			d.Arm(2)
			is(t, w.Add(list("b", "c")...), api.OK)
			spent(t, d)
			writes(t, w, 1, c.segment)
			if c.segment == 1 {
				hasKept(t, d, file{"log.1.1", first + row("b", "c")})
			} else {
				hasKept(t, d, file{"log.1.1", first}, file{"log.1.2", row("b", "c")})
			}
			opened(t, d, 1, c.segment, filling(c.size-7-6), "b", "c")
		}
	}
}

func TestAddGoesOnInSegments(t *testing.T) { // P10.4: each by its own size
	d := having(t, roomy)
	w := opened(t, d, 0, 0)
	is(t, w.Anew(), api.OK)
	var records []string
	var segments []string
	now := noRecords
	for k := range 300 {
		record := filling(k*7%401) + "." + strconv.Itoa(k)
		if len(now) > 4096 {
			segments, now = append(segments, now), ""
		}
		records, now = append(records, record), now+framed(record)
		is(t, w.Add([]byte(record)), api.OK)
		writes(t, w, 1, len(segments)+1)
	}
	var want []file
	for k, s := range append(segments, now) {
		want = append(want, file{"log.1." + strconv.Itoa(k+1), s})
	}
	if len(want) < 11 {
		t.Fatalf("%d segments alone", len(want))
	}
	has(t, d, want...)
	opened(t, d, 1, len(want), records...)
}

func TestAddStaysInTheLastSegmentOfAll(t *testing.T) { // P10.4: behind 999999999 none has a name
	d := having(t, roomy, file{"log.1.1", noRecords})
	w := opened(t, d, 1, 1)
	w.at.number = 999999998
	is(t, d.Append("log.1.999999998", []byte(filling(4097))), api.OK)
	is(t, w.Add(list(filling(5000))...), api.OK)
	writes(t, w, 1, 999999999)
	is(t, w.Add(list("a")...), api.OK)
	writes(t, w, 1, 999999999)
	has(t, d, file{"log.1.1", noRecords}, file{"log.1.999999998", filling(4097)}, file{"log.1.999999999", row(filling(5000), "a")})
}

func TestAddWithoutRoom(t *testing.T) { // P10.4: nothing is done, and the Wal goes on
	d := having(t, 7+7+6)
	w := opened(t, d, 0, 0)
	is(t, w.Anew(), api.OK)
	for range 3 {
		is(t, w.Add(list("a", "bcd")...), api.ErrFull)
		is(t, w.Add(list("four....")...), api.ErrFull)
		writes(t, w, 1, 1)
		has(t, d, file{"log.1.1", noRecords})
	}
	// Without room nothing is asked of the changes that are left.
	d.Arm(0)
	is(t, w.Add(list("four....")...), api.ErrFull)
	d.Arm(2)
	is(t, w.Add(list("sevenby")...), api.OK)
	spent(t, d)
	hasKept(t, d, file{"log.1.1", noRecords + row("sevenby")})
	is(t, w.Add(list("a")...), api.ErrFull)
	opened(t, d, 1, 1, "sevenby")
}

func TestAddWithoutRoomForTheNextSegment(t *testing.T) { // P10.4
	first := segmentOf(filling(4097))
	d := having(t, len(first)+8)
	w := opened(t, d, 0, 0)
	is(t, w.Anew(list(filling(4097))...), api.OK)
	is(t, w.Add(list("abc")...), api.ErrFull)
	writes(t, w, 1, 1)
	has(t, d, file{"log.1.1", first})
	is(t, w.Add(list("ab")...), api.OK)
	writes(t, w, 1, 2)
	has(t, d, file{"log.1.1", first}, file{"log.1.2", row("ab")})
}

// ended tells, if a Wal that an error of the disk ended answers anything but ErrDown.
func ended(t *testing.T, w *Wal) {
	t.Helper()
	for _, l := range append(wrongs(), nil, list("a"), list("a", "b")) {
		is(t, w.Add(l...), api.ErrDown)
		is(t, w.Anew(l...), api.ErrDown)
	}
}

func TestAddWithoutPower(t *testing.T) { // P10.4: at the Append, at the Sync
	first := segmentOf(filling(4000))
	for _, size := range []int{10, 200} { // of what an Add puts there: the second one goes to the segment, to the next
		before := first + row(filling(size))
		for armed, left := range map[int]string{0: "", 1: row("b", "c")} {
			d := having(t, roomy)
			w := opened(t, d, 0, 0)
			is(t, w.Anew(list(filling(4000))...), api.OK)
			is(t, w.Add(list(filling(size))...), api.OK)
			d.Arm(armed)
			is(t, w.Add(list("b", "c")...), api.ErrDown)
			writes(t, w, 1, 1)
			ended(t, w)
			switch {
			case size == 10:
				has(t, d, file{"log.1.1", before + left})
			case armed == 1:
				has(t, d, file{"log.1.1", before}, file{"log.1.2", left})
			default:
				has(t, d, file{"log.1.1", before})
			}
			d.Crash(99, 99)
			ended(t, w)
			writes(t, w, 1, 1)
		}
	}
}

func TestNoPowerOfAnotherEndsNoWal(t *testing.T) { // P10.4: an error of a call of its own
	d := having(t, roomy)
	w := opened(t, d, 0, 0)
	is(t, w.Anew(list("a")...), api.OK)
	d.Arm(0)
	is(t, d.Append("image", nil), api.ErrDown)
	is(t, w.Add(), api.OK)
	is(t, w.Add([]byte{}), api.ErrArg)
	is(t, w.Anew([]byte{}), api.ErrArg)
	d.Crash()
	is(t, w.Add(list("b")...), api.OK)
	is(t, w.Anew(list("c")...), api.OK)
	opened(t, d, 2, 1, "c")
}

func TestAnewWritesAGeneration(t *testing.T) { // P10.5
	d := having(t, roomy, file{"image", "i"})
	w := opened(t, d, 0, 0)
	d.Arm(2)
	is(t, w.Anew(list("a", "bc")...), api.OK)
	spent(t, d)
	writes(t, w, 1, 1)
	hasKept(t, d, file{"image", "i"}, file{"log.1.1", framed("\x04") + row("a", "bc")})
	is(t, w.Add(list("d")...), api.OK)
	d.Arm(3)
	is(t, w.Anew(), api.OK)
	spent(t, d)
	writes(t, w, 2, 1)
	hasKept(t, d, file{"image", "i"}, file{"log.2.1", framed("\x00")})
	is(t, w.Anew(list("e")...), api.OK)
	is(t, w.Add(list("f")...), api.OK)
	opened(t, d, 3, 1, "e", "f")
	has(t, d, file{"image", "i"}, file{"log.3.1", framed("\x02") + row("e", "f")})
}

func TestAnewTellsHowMany(t *testing.T) { // P10.5: the number of layer 3
	for _, c := range []struct {
		n    int
		head string
	}{{0, "\x00"}, {1, "\x02"}, {63, "\x7e"}, {64, "\x80\x01"}, {65, "\x82\x01"}, {8191, "\xfe\x7f"}, {8192, "\x80\x80\x01"}} {
		d := having(t, roomy)
		w := opened(t, d, 0, 0)
		var records []string
		for k := range c.n {
			records = append(records, strconv.Itoa(k))
		}
		is(t, w.Anew(list(records...)...), api.OK)
		has(t, d, file{"log.1.1", framed(c.head) + row(records...)})
		opened(t, d, 1, 1, records...)
	}
}

func TestAnewIsOneSegment(t *testing.T) { // P10.5: however long it is; the next Add goes behind it
	d := having(t, roomy)
	w := opened(t, d, 0, 0)
	big := filling(api.MaxRecord)
	is(t, w.Anew(list(big, "a", big)...), api.OK)
	writes(t, w, 1, 1)
	has(t, d, file{"log.1.1", segmentOf(big, "a", big)})
	is(t, w.Add(list("b")...), api.OK)
	writes(t, w, 1, 2)
	is(t, w.Anew(list("c")...), api.OK)
	has(t, d, file{"log.2.1", segmentOf("c")})
	opened(t, d, 2, 1, "c")
}

func TestAnewRefusesRecords(t *testing.T) { // P10.5
	d := having(t, roomy)
	w := opened(t, d, 0, 0)
	d.Arm(0)
	for _, l := range wrongs() {
		is(t, w.Anew(l...), api.ErrArg)
	}
	if d.Off() {
		t.Error("something was changed")
	}
	has(t, d)
	writes(t, w, 0, 0)
	d.Arm(-1)
	is(t, w.Anew(list("a")...), api.OK)
	for _, l := range wrongs() {
		is(t, w.Anew(l...), api.ErrArg)
	}
	has(t, d, file{"log.1.1", segmentOf("a")})
	opened(t, d, 1, 1, "a")
}

func TestAnewOfTheLastGeneration(t *testing.T) { // P10.5: ErrArg is asked ahead; the Wal goes on
	d := having(t, roomy, file{"log.999999998.1", segmentOf("a")})
	w := opened(t, d, 999999998, 1, "a")
	is(t, w.Anew(list("b")...), api.OK)
	writes(t, w, 999999999, 1)
	d.Arm(0)
	for range 2 {
		is(t, w.Anew(), api.ErrFull)
		is(t, w.Anew(list("c")...), api.ErrFull)
		is(t, w.Anew(nil, nil), api.ErrArg)
	}
	if d.Off() {
		t.Error("something was changed")
	}
	d.Arm(-1)
	is(t, w.Add(list("d")...), api.OK)
	has(t, d, file{"log.999999999.1", segmentOf("b") + row("d")})
	opened(t, d, 999999999, 1, "b", "d")
}

func TestAnewWithoutRoom(t *testing.T) { // P10.5: the old generation counts till it is removed
	d := having(t, 2*len(segmentOf("a")))
	w := opened(t, d, 0, 0)
	is(t, w.Anew(list(filling(40))...), api.ErrFull)
	writes(t, w, 0, 0)
	has(t, d)
	is(t, w.Add(list("a")...), api.ErrNone)
	is(t, w.Anew(list("a")...), api.OK)
	d.Arm(0)
	is(t, w.Anew(list("bc")...), api.ErrFull)
	if d.Off() {
		t.Error("something was changed")
	}
	d.Arm(-1)
	writes(t, w, 1, 1)
	has(t, d, file{"log.1.1", segmentOf("a")})
	is(t, w.Anew(list("b")...), api.OK)
	has(t, d, file{"log.2.1", segmentOf("b")})
	is(t, w.Add(list("c")...), api.OK)
	is(t, w.Anew(), api.OK)
	opened(t, d, 3, 1)
}

// threeSegments is a disk whose Wal has three, of generation 1, and these.
func threeSegments(t *testing.T) (*disk.Disk, *Wal, []file) {
	t.Helper()
	d := having(t, roomy)
	w := opened(t, d, 0, 0)
	big := filling(4200)
	is(t, w.Anew(list(big)...), api.OK)
	is(t, w.Add(list(big)...), api.OK)
	is(t, w.Add(list("a")...), api.OK)
	writes(t, w, 1, 3)
	l := []file{{"log.1.1", segmentOf(big)}, {"log.1.2", row(big)}, {"log.1.3", row("a")}}
	has(t, d, l...)
	return d, w, l
}

func TestAnewsChangesInTheirOrder(t *testing.T) { // P10.5: Append, Sync, removed from 1 on
	fresh := file{"log.2.1", segmentOf("b", "c")}
	for armed := range 5 {
		d, w, old := threeSegments(t)
		d.Arm(armed)
		is(t, w.Anew(list("b", "c")...), api.ErrDown)
		writes(t, w, 1, 3)
		ended(t, w)
		left := old
		if armed >= 1 {
			left = append(old[max(armed-2, 0):], fresh)
		}
		has(t, d, left...)
		d.Crash()
		ended(t, w)
		writes(t, w, 1, 3)
		if armed >= 2 {
			has(t, d, left...)
			opened(t, d, 2, 1, "b", "c")
			has(t, d, fresh)
		} else {
			opened(t, d, 1, 3, filling(4200), filling(4200), "a")
			has(t, d, old...)
		}
	}
	d, w, _ := threeSegments(t)
	d.Arm(5)
	is(t, w.Anew(list("b", "c")...), api.OK)
	spent(t, d)
	writes(t, w, 2, 1)
	hasKept(t, d, fresh)
}

func TestAnewLeavesOtherFiles(t *testing.T) { // P10.1, P10.5: those that are no segments, and of no generation
	others := []file{{"image", "i"}, {"log.0.1", segmentOf("x")}, {"log.0.2", "y"}, {"log.01.1", "z"}, {"log.1.01", ""}, {"log.1.1.1", "."}}
	d := having(t, roomy, others...)
	w := opened(t, d, 0, 0)
	for k := range 3 {
		is(t, w.Anew(), api.OK)
		has(t, d, append(others[:len(others):len(others)], file{"log." + strconv.Itoa(k+1) + ".1", noRecords})...)
	}
}

func TestAnewAsOftenAsOneLikes(t *testing.T) { // P10.5: by their numbers, two digits of them, too
	d := having(t, roomy)
	w := opened(t, d, 0, 0)
	for k := 1; k <= 1100; k++ {
		record := strconv.Itoa(k)
		is(t, w.Anew([]byte(record)), api.OK)
		writes(t, w, k, 1)
		if k%9 == 0 {
			w = opened(t, d, k, 1, record)
		}
	}
	has(t, d, file{"log.1100.1", segmentOf("1100")})
}

func TestAnewRemovesSegmentsAsLongAsTheyAreThere(t *testing.T) { // P10.1, P10.5: those that another call put there, too
	d := having(t, roomy)
	w := opened(t, d, 0, 0)
	is(t, w.Anew(list("a")...), api.OK)
	for _, name := range []string{"log.1.2", "log.1.4", "log.3.2"} {
		is(t, d.Append(name, nil), api.OK)
	}
	is(t, w.Anew(list("b")...), api.OK)
	writes(t, w, 2, 1)
	has(t, d, file{"log.1.4", ""}, file{"log.2.1", segmentOf("b")}, file{"log.3.2", ""})
	is(t, d.Remove("log.2.1"), api.OK)
	is(t, w.Anew(list("c")...), api.OK)
	opened(t, d, 3, 2, "c")
}
