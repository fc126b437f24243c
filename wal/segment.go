package wal

import (
	"strconv"
	"strings"

	"concord/disk"
)

const (
	prefix = "log."
	point  = "."
	digits = 9 // of a number at most
	most   = 999999999
)

// segment names a file of records: whose generation, and which place in it, both from 1 on.
type segment struct{ generation, number int }

// name answers the segment's file.
func (s segment) name() string {
	return prefix + strconv.Itoa(s.generation) + point + strconv.Itoa(s.number)
}

// read answers the segment's bytes, and whether it is there.
func (s segment) read(d *disk.Disk) ([]byte, bool) {
	// A file of other numbers may be there, but is no segment.
	if s.generation < 1 || s.number > most {
		return nil, false
	}
	return d.Read(s.name())
}

// segments answers those that the disk has, by rising names.
func segments(d *disk.Disk) []segment {
	var l []segment
	for _, name := range d.Names() {
		if s, is := named(name); is {
			l = append(l, s)
		}
	}
	return l
}

// named answers the segment of that name, and whether it is one's.
func named(name string) (segment, bool) {
	rest, is := strings.CutPrefix(name, prefix)
	if !is {
		return segment{}, false
	}
	generation, number, _ := strings.Cut(rest, point)
	s := segment{count(generation), count(number)}
	if s.generation == 0 || s.number == 0 {
		return segment{}, false
	}
	return s, true
}

// count answers the number that the digits say, or 0, if they may not stand in a name.
func count(s string) int {
	if len(s) < 1 || len(s) > digits || s[0] == '0' {
		return 0
	}
	n := 0
	for k := range len(s) {
		if s[k] < '0' || s[k] > '9' {
			return 0
		}
		n = n*10 + int(s[k]-'0')
	}
	return n
}
