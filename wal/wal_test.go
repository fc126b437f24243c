package wal

import (
	"bytes"
	"math"
	"regexp"
	"slices"
	"strconv"
	"strings"
	"testing"

	"concord/api"
)

func TestRuns(t *testing.T) { // the chapter's runs
	d := having(t, roomy)
	w := opened(t, d, 0, 0)
	is(t, w.Add([]byte("x")), api.ErrNone)
	has(t, d)
	is(t, w.Anew([]byte("a"), []byte("b")), api.OK)
	is(t, w.Add([]byte("c")), api.OK)
	w = opened(t, d, 1, 1, "a", "b", "c")
	is(t, w.Anew(), api.OK)
	writes(t, w, 2, 1)
	opened(t, d, 2, 1)
}

func TestOpenOfNoDisk(t *testing.T) { // P10.3
	fails(t, nil, api.ErrArg)
}

func TestOpenOfNothing(t *testing.T) { // P10.2, P10.3: without power, too: there is nothing to change
	d := having(t, 0)
	opened(t, d, 0, 0)
	d.Arm(0)
	w := opened(t, d, 0, 0)
	if d.Off() {
		t.Error("something was changed")
	}
	is(t, d.Append("x", nil), api.ErrDown)
	opened(t, d, 0, 0)
	is(t, w.Anew(), api.ErrDown)
	writes(t, w, 0, 0)
}

// segmentName is P10.1's words.
var segmentName = regexp.MustCompile(`^log\.[1-9][0-9]{0,8}\.[1-9][0-9]{0,8}$`)

// likeNames are names about the edges of those of segments.
func likeNames() []string {
	l := []string{"image", "image.new", "l", "log", "log.", "log..", "log.1", "log.1.", "log..1", "log.1..1", ".1.1", "1.1",
		"log.1.1.", "log.1.1.1", "log.1.1x", "log.1.x1", "xlog.1.1", "LOG.1.1", "log1.1", "log.1-1", "log.-1.1", "log.1.-1",
		"log.+1.1", "log.1.+1", "log.1_0.1", "log.1.1_0", "log.0x1.1", "log.1.0x1", "log.1e1.1", "log.0.1", "log.1.0", "log.0.0",
		"log.00.1", "log.1.00", "log.01.1", "log.1.01", "log.001.1", "log.1.000000001", "log.10.1", "log.1.10", "log.9.9",
		"log.123456789.1", "log.999999999.1", "log.1000000000.1", "log.0999999999.1", "log.9999999999.1",
		"log.1.123456789", "log.1.999999999", "log.1.1000000000", "log.1.0999999999", "log.1.9999999999",
		"log.999999999.999999999", "log.18446744073709551617", "log.1.184467440737095517"}
	for k := range len("log.2.3") {
		for c := byte(33); c <= 126; c++ {
			name := []byte("log.2.3")
			name[k] = c
			l = append(l, string(name), "log.2.3"[:k]+string([]byte{c})+"log.2.3"[k:])
		}
	}
	return l
}

func TestWhichFilesAreSegments(t *testing.T) { // P10.1: what is none stays
	taken := 0
	for _, name := range likeNames() {
		d := having(t, roomy, file{name, "torn"})
		opened(t, d, 0, 0)
		if segmentName.MatchString(name) {
			taken++
			has(t, d)
		} else {
			has(t, d, file{name, "torn"})
		}
	}
	if taken < 50 {
		t.Errorf("%d names of segments alone", taken)
	}
}

func TestWhichFilesAreFirstSegments(t *testing.T) { // P10.1, P10.2
	for _, name := range likeNames() {
		d := having(t, roomy, file{name, segmentOf("a")})
		if !segmentName.MatchString(name) {
			opened(t, d, 0, 0)
			has(t, d, file{name, segmentOf("a")})
			continue
		}
		parts := strings.Split(name, ".")
		if parts[2] != "1" {
			opened(t, d, 0, 0)
			has(t, d)
			continue
		}
		g, _ := strconv.Atoi(parts[1])
		opened(t, d, g, 1, "a")
		has(t, d, file{name, segmentOf("a")})
	}
}

func TestHeads(t *testing.T) { // P10.1: the first payload of segment 1
	most := number(math.MaxInt64) // its double has 64 bits
	for _, c := range []struct {
		what, head string
		records    int
		whole      bool
	}{
		{"0 of 0", "\x00", 0, true},
		{"0 of 3: the others are records, too", "\x00", 3, true},
		{"1 of 0", "\x02", 0, false},
		{"1 of 1", "\x02", 1, true},
		{"2 of 1", "\x04", 1, false},
		{"2 of 3", "\x04", 3, true},
		{"63 of 63", "\x7e", 63, true},
		{"64 of 64", "\x80\x01", 64, true},
		{"64 of 63", "\x80\x01", 63, false},
		{"300 of 300", number(300), 300, true},
		{"300 of 299", number(300), 299, false},
		{"the greatest", most, 3, false},
		{"-1", "\x01", 3, false},
		{"-2", "\x03", 3, false},
		{"the least", "\xff\xff\xff\xff\xff\xff\xff\xff\xff\x01", 3, false},
		{"no end", "\x80", 3, false},
		{"a nought on top", "\x80\x00", 3, false},
		{"too many bits", "\xff\xff\xff\xff\xff\xff\xff\xff\xff\x02", 3, false},
		{"something behind it", "\x00\x00", 3, false},
		{"another text", "record", 3, false},
	} {
		var records []string
		for k := range c.records {
			records = append(records, "r"+strconv.Itoa(k))
		}
		data := framed(c.head) + row(records...)
		d := having(t, roomy, file{"log.4.1", data}, file{"other", "x"})
		t.Log(c.what)
		if c.whole {
			opened(t, d, 4, 1, records...)
			has(t, d, file{"log.4.1", data}, file{"other", "x"})
		} else {
			opened(t, d, 0, 0)
			has(t, d, file{"other", "x"})
		}
	}
}

func TestGenerationsAreRead(t *testing.T) { // P10.1, P10.2, P10.3
	torn := framed("torn")[:9]
	turned := framed("turned")[:11] + "?"
	for _, c := range []struct {
		what    string
		is      []file
		records []string
		segment int
		left    []file
	}{
		{"two segments", []file{{"log.7.1", segmentOf("a")}, {"log.7.2", row("b", "c")}}, []string{"a", "b", "c"}, 2,
			[]file{{"log.7.1", segmentOf("a")}, {"log.7.2", row("b", "c")}}},
		{"those that must be there stand in two segments", []file{{"log.7.1", framed("\x06") + row("a")}, {"log.7.2", row("b", "c")}}, []string{"a", "b", "c"}, 2,
			[]file{{"log.7.1", framed("\x06") + row("a")}, {"log.7.2", row("b", "c")}}},
		{"one of those is torn", []file{{"log.7.1", framed("\x06") + row("a")}, {"log.7.2", row("b") + torn}}, nil, 0, nil},
		{"torn at the end", []file{{"log.7.1", segmentOf("a") + torn}}, []string{"a"}, 1, []file{{"log.7.1", segmentOf("a")}}},
		{"torn behind the head", []file{{"log.7.1", noRecords + torn}}, nil, 1, []file{{"log.7.1", noRecords}}},
		{"one byte left over", []file{{"log.7.1", segmentOf("a") + "\x01"}}, []string{"a"}, 1, []file{{"log.7.1", segmentOf("a")}}},
		{"noughts behind", []file{{"log.7.1", segmentOf("a") + "\x00\x00\x00"}}, []string{"a"}, 1, []file{{"log.7.1", segmentOf("a")}}},
		{"a turned one, and whole ones behind it", []file{{"log.7.1", segmentOf("a") + turned + row("b")}, {"log.7.2", row("c")}}, []string{"a"}, 1,
			[]file{{"log.7.1", segmentOf("a")}}},
		{"no segment counts behind what is torn", []file{{"log.7.1", segmentOf("a")}, {"log.7.2", row("b") + torn}, {"log.7.3", row("c")}}, []string{"a", "b"}, 2,
			[]file{{"log.7.1", segmentOf("a")}, {"log.7.2", row("b")}}},
		{"one that begins torn is read, too", []file{{"log.7.1", segmentOf("a")}, {"log.7.2", torn}, {"log.7.3", row("c")}}, []string{"a"}, 2,
			[]file{{"log.7.1", segmentOf("a")}, {"log.7.2", ""}}},
		{"one without bytes has its end where it begins", []file{{"log.7.1", segmentOf("a")}, {"log.7.2", ""}, {"log.7.3", row("c")}}, []string{"a", "c"}, 3,
			[]file{{"log.7.1", segmentOf("a")}, {"log.7.2", ""}, {"log.7.3", row("c")}}},
		{"the last one has no bytes", []file{{"log.7.1", segmentOf("a")}, {"log.7.2", ""}}, []string{"a"}, 2,
			[]file{{"log.7.1", segmentOf("a")}, {"log.7.2", ""}}},
		{"behind a gap none counts", []file{{"log.7.1", segmentOf("a")}, {"log.7.2", row("b")}, {"log.7.4", row("c")}, {"log.7.10", row("d")}}, []string{"a", "b"}, 2,
			[]file{{"log.7.1", segmentOf("a")}, {"log.7.2", row("b")}}},
		{"no segment 1", []file{{"log.7.2", segmentOf("a")}}, nil, 0, nil},
		{"segment 1 has no bytes", []file{{"log.7.1", ""}, {"log.7.2", segmentOf("a")}}, nil, 0, nil},
		{"segment 1 has no payload", []file{{"log.7.1", torn}, {"log.7.2", segmentOf("a")}}, nil, 0, nil},
		{"the head is turned", []file{{"log.7.1", framed("\x00")[:6] + "?" + row("a")}}, nil, 0, nil},
		{"a record may look like a head", []file{{"log.7.1", segmentOf("\x00", "\x04")}, {"log.7.2", segmentOf("b")}}, []string{"\x00", "\x04", "\x02", "b"}, 2,
			[]file{{"log.7.1", segmentOf("\x00", "\x04")}, {"log.7.2", segmentOf("b")}}},
	} {
		t.Log(c.what)
		generation := 7
		if c.segment == 0 {
			generation = 0
		}
		d := having(t, roomy, append(c.is, file{"image", "kept"})...)
		opened(t, d, generation, c.segment, c.records...)
		has(t, d, append(c.left, file{"image", "kept"})...)
		opened(t, d, generation, c.segment, c.records...)
		has(t, d, append(c.left, file{"image", "kept"})...)
	}
}

func TestWhichGenerationCounts(t *testing.T) { // P10.3: by their numbers, not by their names
	whole := func(g string) file { return file{"log." + g + ".1", segmentOf("of " + g)} }
	half := func(g string) file { return file{"log." + g + ".1", framed("\x06") + row("a", "b")} }
	behind := func(g string) file { return file{"log." + g + ".2", row("behind")} }
	for _, c := range []struct {
		is         []file
		generation int
		segment    int
		records    []string
		left       []file
	}{
		{[]file{whole("1"), whole("2")}, 2, 1, []string{"of 2"}, []file{whole("2")}},
		{[]file{whole("9"), whole("10")}, 10, 1, []string{"of 10"}, []file{whole("10")}},
		{[]file{whole("10"), behind("10"), whole("9"), behind("9")}, 10, 2, []string{"of 10", "behind"}, []file{whole("10"), behind("10")}},
		{[]file{whole("1"), whole("2"), behind("2"), half("3")}, 2, 2, []string{"of 2", "behind"}, []file{whole("2"), behind("2")}},
		{[]file{whole("1"), behind("2"), half("3"), half("11")}, 1, 1, []string{"of 1"}, []file{whole("1")}},
		{[]file{half("1"), half("2"), behind("5")}, 0, 0, nil, nil},
		{[]file{whole("5"), whole("6"), whole("999999999"), whole("99999999")}, 999999999, 1, []string{"of 999999999"}, []file{whole("999999999")}},
		{[]file{whole("5"), behind("7"), whole("1000000000")}, 5, 1, []string{"of 5"}, []file{whole("5"), whole("1000000000")}},
		{[]file{half("5"), behind("5")}, 5, 2, []string{"a", "b", "behind"}, []file{half("5"), behind("5")}},
	} {
		d := having(t, roomy, c.is...)
		opened(t, d, c.generation, c.segment, c.records...)
		has(t, d, c.left...)
	}
}

func TestManySegmentsAreReadByTheirNumbers(t *testing.T) { // P10.1: the tenth is behind the ninth
	l := []file{{"log.3.1", segmentOf("r1")}}
	records := []string{"r1"}
	for k := 2; k <= 123; k++ {
		records = append(records, "r"+strconv.Itoa(k))
		l = append(l, file{"log.3." + strconv.Itoa(k), row(records[k-1])})
	}
	d := having(t, roomy, l...)
	w := opened(t, d, 3, 123, records...)
	has(t, d, l...)
	is(t, w.Anew([]byte("new")), api.OK)
	has(t, d, file{"log.4.1", segmentOf("new")})
}

func TestManyGenerationsAreTold(t *testing.T) { // R1: each of them is read once
	d := having(t, roomy, file{"log.1.1", segmentOf("a")})
	for k := 2; k < 3000; k++ {
		is(t, d.Append("log."+strconv.Itoa(k)+".1", nil), api.OK)
	}
	opened(t, d, 1, 1, "a")
	has(t, d, file{"log.1.1", segmentOf("a")})
}

// toOpen is a disk's files of which Open changes these, one by one; each line is what is left behind one more.
func toOpen() (from []file, steps [][]file) {
	torn := segmentOf("a") + "\x04"
	from = []file{{"image", "i"}, {"log.10.1", "x"}, {"log.2.1", segmentOf("old")}, {"log.3.1", torn}, {"log.3.10", "y"}, {"log.3.3", row("b")}, {"log.4.3", ""}}
	now := slices.Clone(from)
	now[3].data = segmentOf("a")
	steps = [][]file{from, slices.Clone(now)}
	for _, name := range []string{"log.10.1", "log.2.1", "log.3.10", "log.3.3", "log.4.3"} {
		now = slices.DeleteFunc(now, func(f file) bool { return f.name == name })
		steps = append(steps, slices.Clone(now))
	}
	return from, steps
}

func TestOpensChangesInTheirOrder(t *testing.T) { // P10.3: cut, removed by rising names, synced
	from, steps := toOpen()
	for n, left := range steps {
		d := having(t, roomy, from...)
		d.Arm(n)
		fails(t, d, api.ErrDown)
		has(t, d, left...)
		fails(t, d, api.ErrDown)
		d.Crash()
		opened(t, d, 3, 1, "a")
		has(t, d, steps[len(steps)-1]...)
	}
	// Behind the last of them the sync is one more, and the last one.
	d := having(t, roomy, from...)
	d.Arm(len(steps))
	opened(t, d, 3, 1, "a")
	has(t, d, steps[len(steps)-1]...)
	is(t, d.Append("x", nil), api.ErrDown)
}

func TestOpenOfNoneRemovesAll(t *testing.T) { // P10.3
	from := []file{{"image", "i"}, {"log.1.2", row("a")}, {"log.10.1", ""}, {"log.2.1", "x"}}
	for n := range 3 {
		d := having(t, roomy, from...)
		d.Arm(n)
		fails(t, d, api.ErrDown)
		has(t, d, append([]file{from[0]}, from[n+1:]...)...)
	}
	d := having(t, roomy, from...)
	d.Arm(3)
	opened(t, d, 0, 0)
	has(t, d, from[0])
	is(t, d.Append("x", nil), api.ErrDown)
}

func TestOpenSyncsTheLastSegment(t *testing.T) { // P10.3: that one, cut or not, and none else
	for _, left := range []string{"", "\x02"} {
		d := having(t, roomy, file{"log.1.1", segmentOf("a")})
		is(t, d.Append("log.1.1", []byte(row("b"))), api.OK)
		is(t, d.Append("log.1.2", []byte(row("c")+left)), api.OK)
		opened(t, d, 1, 2, "a", "b", "c")
		hasKept(t, d, file{"log.1.1", segmentOf("a")}, file{"log.1.2", row("c")})
	}
}

func TestOpenNeedsPowerToSync(t *testing.T) { // P10.3: nothing is cut or removed, and it fails
	d := having(t, roomy, file{"log.1.1", segmentOf("a")})
	d.Arm(0)
	fails(t, d, api.ErrDown)
	d.Crash()
	d.Arm(1)
	opened(t, d, 1, 1, "a")
	is(t, d.Append("x", nil), api.ErrDown)
}

func TestOpenAnswersNewMemory(t *testing.T) { // R2
	d := having(t, roomy, file{"log.1.1", segmentOf("one", "two")}, file{"log.1.2", row("three")})
	want := files(d)
	w, l, _ := Open(d)
	for k := range l {
		for j := range l[k] {
			l[k][j] = '?'
		}
		l[k] = append(l[k], "more"...)
		if k+1 < len(l) && string(l[k+1][:1]) == "?" {
			t.Error("two records share memory")
		}
	}
	has(t, d, want...)
	is(t, w.Add([]byte("four")), api.OK)
	opened(t, d, 1, 2, "one", "two", "three", "four")
}

func TestRecordsAreNeitherChangedNorKept(t *testing.T) { // R2
	for _, call := range []func(*Wal, ...[]byte) api.Errno{(*Wal).Add, (*Wal).Anew} {
		d := having(t, roomy, file{"log.1.1", noRecords})
		w := opened(t, d, 1, 1)
		whole := []byte("one two three ....")
		room := make([][]byte, 2, 5)
		room[0], room[1] = whole[0:3], whole[4:7]
		is(t, call(w, room...), api.OK)
		if string(whole) != "one two three ...." || !slices.EqualFunc(room[:5], [][]byte{whole[:3], whole[4:7], nil, nil, nil}, bytes.Equal) {
			t.Errorf("changed: %q %q", whole, room[:5])
		}
		copy(whole, "???????")
		g, _ := w.Where()
		opened(t, d, g, 1, "one", "two")
		is(t, w.Add([]byte("3")), api.OK)
		opened(t, d, g, 1, "one", "two", "3")
	}
}

func TestTwoWalsOfOneKind(t *testing.T) { // what one keeps isn't another one's
	one, other := having(t, roomy), having(t, roomy)
	w, x := opened(t, one, 0, 0), opened(t, other, 0, 0)
	is(t, w.Anew([]byte("w")), api.OK)
	is(t, x.Add([]byte("x")), api.ErrNone)
	other.Arm(0)
	is(t, x.Anew(), api.ErrDown)
	is(t, w.Add([]byte("more")), api.OK)
	has(t, other)
	opened(t, one, 1, 1, "w", "more")
}
