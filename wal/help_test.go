package wal

import (
	"bytes"
	"hash/crc32"
	"slices"
	"strconv"
	"strings"
	"testing"

	"concord/api"
	"concord/disk"
)

// roomy is a quota that no test of files fills by chance.
const roomy = 1 << 18

// framed is the payload's frame by chapter 9's words, by division, with a sum that isn't the project's own.
func framed(payload string) string {
	f := []byte{byte(len(payload) % 256), byte(len(payload) / 256)}
	f = append(f, payload...)
	c := crc32.ChecksumIEEE(f)
	for range 4 {
		f = append(f, byte(c%256))
		c /= 256
	}
	return string(f)
}

// row is the payloads' frames, one behind the other.
func row(payloads ...string) string {
	b := ""
	for _, p := range payloads {
		b += framed(p)
	}
	return b
}

// number is n, from 0 on, as chapter 3 writes it, by division.
func number(n uint64) string {
	b := ""
	for n *= 2; n >= 128; n /= 128 {
		b += string([]byte{byte(n%128) + 128})
	}
	return b + string([]byte{byte(n)})
}

// segmentOf is what a generation's first segment holds behind an Anew.
func segmentOf(records ...string) string {
	return framed(number(uint64(len(records)))) + row(records...)
}

// list is texts as records.
func list(texts ...string) [][]byte {
	var l [][]byte
	for _, s := range texts {
		l = append(l, []byte(s))
	}
	return l
}

// texts is records as texts.
func texts(l [][]byte) []string {
	var all []string
	for _, b := range l {
		all = append(all, string(b))
	}
	return all
}

// file is a name and the bytes that stand under it.
type file struct{ name, data string }

// having is a disk that has these files, all of them kept.
func having(t *testing.T, quota int, files ...file) *disk.Disk {
	t.Helper()
	d, why := disk.New(quota)
	if why != api.OK {
		t.Fatalf("New(%d): %d", quota, why)
	}
	for _, f := range files {
		if d.Append(f.name, []byte(f.data)) != api.OK || d.Sync(f.name) != api.OK {
			t.Fatalf("%s can't be laid on the disk", f.name)
		}
	}
	return d
}

// files are those of the disk, by rising names.
func files(d *disk.Disk) []file {
	var l []file
	for _, name := range d.Names() {
		data, _ := d.Read(name)
		l = append(l, file{name, string(data)})
	}
	return l
}

// shown is files in few words, for what a test tells.
func shown(l []file) string {
	var all []string
	for _, f := range l {
		data := f.data
		if len(data) > 40 {
			data = data[:40] + ".. (" + strconv.Itoa(len(f.data)) + ")"
		}
		all = append(all, f.name+" "+strconv.Quote(data))
	}
	return "[" + strings.Join(all, ", ") + "]"
}

// has tells, if the disk's files aren't these, given in any order.
func has(t *testing.T, d *disk.Disk, want ...file) {
	t.Helper()
	slices.SortFunc(want, func(a, b file) int { return strings.Compare(a.name, b.name) })
	if got := files(d); !slices.Equal(got, want) {
		t.Fatalf("on the disk: %s, not %s", shown(got), shown(want))
	}
}

// hasKept tells, if what lasts of the disk's files isn't this; power fails for it.
func hasKept(t *testing.T, d *disk.Disk, want ...file) {
	t.Helper()
	d.Crash()
	has(t, d, want...)
}

// opened is a Wal of the disk, with these records, that is written there.
func opened(t *testing.T, d *disk.Disk, generation, segment int, records ...string) *Wal {
	t.Helper()
	w, l, why := Open(d)
	if why != api.OK || w == nil {
		t.Fatalf("Open: %d, of %s", why, shown(files(d)))
	}
	if !slices.Equal(texts(l), records) {
		t.Fatalf("Open: records %.200q, not %.200q, of %s", texts(l), records, shown(files(d)))
	}
	writes(t, w, generation, segment)
	return w
}

// writes tells, if the Wal is written elsewhere.
func writes(t *testing.T, w *Wal, generation, segment int) {
	t.Helper()
	if g, s := w.Where(); g != generation || s != segment {
		t.Fatalf("Where: %d, %d, not %d, %d", g, s, generation, segment)
	}
}

// is tells, if a call's answer is another one.
func is(t *testing.T, got, want api.Errno) {
	t.Helper()
	if got != want {
		t.Fatalf("answered %d, not %d", got, want)
	}
}

// fails tells, if Open answers anything but this error.
func fails(t *testing.T, d *disk.Disk, want api.Errno) {
	t.Helper()
	w, l, why := Open(d)
	if w != nil || len(l) != 0 || why != want {
		t.Fatalf("Open: %v, %q, %d, not nothing and %d", w, texts(l), why, want)
	}
}

// filling is a text of n bytes.
func filling(n int) string { return strings.Repeat("f", n) }

// noRecords is the first segment of a generation that has none.
var noRecords = segmentOf()

func TestTheLimitsAreApis(t *testing.T) { // the tests are written with them
	if api.MaxRecord != 16384 || api.MaxSegment != 4096 {
		t.Fatal("MaxRecord or MaxSegment is another number")
	}
}

func TestHelpersAsTheChaptersSay(t *testing.T) { // bytes of chapters 3 and 9
	if number(0) != "\x00" || number(1) != "\x02" || number(63) != "\x7e" || number(64) != "\x80\x01" {
		t.Error("number")
	}
	if got := []byte(framed("ab")); !bytes.Equal(got, []byte{2, 0, 'a', 'b', 0x05, 0x4d, 0x17, 0x54}) {
		t.Errorf("framed: %x", got)
	}
}
