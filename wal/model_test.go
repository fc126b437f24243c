package wal

import (
	"hash/crc32"
	"slices"
	"strconv"
	"strings"
	"testing"

	"concord/api"
	"concord/disk"
)

// model is a Wal by the chapter's words, on a disk of its own.
type model struct {
	d                   *disk.Disk
	generation, segment int
	down                bool
}

// change is one of a disk, as a function that answers its error.
type change func() api.Errno

// first does the changes one by one, and answers the first error.
func first(l ...change) api.Errno {
	for _, c := range l {
		if why := c(); why != api.OK {
			return why
		}
	}
	return api.OK
}

func nameOf(g, s int) string { return "log." + strconv.Itoa(g) + "." + strconv.Itoa(s) }

// payloadsOf are those of the frames at the beginning of b, and how many bytes these have.
func payloadsOf(b string) (l []string, upto int) {
	for {
		rest := b[upto:]
		if len(rest) < 2 {
			return l, upto
		}
		n := int(rest[0]) + 256*int(rest[1])
		if n == 0 || n > 16384 || len(rest) < n+6 || rest[:n+6] != framed(rest[2:n+2]) {
			return l, upto
		}
		l, upto = append(l, rest[2:n+2]), upto+n+6
	}
}

// headOf is the number that a head says: it is one of those that a test writes, or none.
func headOf(head string) int {
	for n := range 200 {
		if head == number(uint64(n)) {
			return n
		}
	}
	return -1
}

// generationOf is what the model reads of one.
func (m *model) generationOf(g int) (whole bool, records []string, segment, upto, size int) {
	all := ""
	for s := 1; ; s++ {
		b, is := m.d.Read(nameOf(g, s))
		if !is {
			break
		}
		l, end := payloadsOf(string(b))
		if s == 1 {
			if len(l) == 0 {
				return false, nil, 0, 0, 0
			}
			all, l = l[0], l[1:]
		}
		records = append(records, l...)
		segment, upto, size = s, end, len(b)
		if end < len(b) {
			break
		}
	}
	must := headOf(all)
	return must >= 0 && len(records) >= must, records, segment, upto, size
}

// numbersOf are those of a segment's name.
func numbersOf(name string) (g, s int, is bool) {
	if !segmentName.MatchString(name) {
		return 0, 0, false
	}
	parts := strings.Split(name, ".")
	g, _ = strconv.Atoi(parts[1])
	s, _ = strconv.Atoi(parts[2])
	return g, s, true
}

// open begins the model, and answers what Open must.
func (m *model) open() ([]string, api.Errno) {
	*m = model{d: m.d}
	var records []string
	var upto, size int
	for _, name := range m.d.Names() {
		g, _, is := numbersOf(name)
		if !is || g <= m.generation {
			continue
		}
		if whole, l, s, at, all := m.generationOf(g); whole {
			m.generation, m.segment, records, upto, size = g, s, l, at, all
		}
	}
	var l []change
	if upto < size {
		l = append(l, func() api.Errno { return m.d.Cut(nameOf(m.generation, m.segment), upto) })
	}
	for _, name := range m.d.Names() {
		if g, s, is := numbersOf(name); is && (g != m.generation || s > m.segment) {
			l = append(l, func() api.Errno { return m.d.Remove(name) })
		}
	}
	if m.generation > 0 {
		l = append(l, func() api.Errno { return m.d.Sync(nameOf(m.generation, m.segment)) })
	}
	why := first(l...)
	if why != api.OK {
		records = nil
	}
	return records, why
}

func wrongRecord(s string) bool { return s == "" || len(s) > 16384 }

// put appends b to a file, syncs it, and does the changes behind; then the Wal is written there, or it ends.
func (m *model) put(g, s int, b string, behind ...change) api.Errno {
	name := nameOf(g, s)
	if len(b) > m.d.Room() && !m.d.Off() {
		return m.d.Append(name, []byte(b))
	}
	l := []change{func() api.Errno { return m.d.Append(name, []byte(b)) }, func() api.Errno { return m.d.Sync(name) }}
	why := first(append(l, behind...)...)
	if why != api.OK {
		m.down = true
		return why
	}
	m.generation, m.segment = g, s
	return why
}

func (m *model) add(l ...string) api.Errno {
	switch {
	case m.down:
		return api.ErrDown
	case m.generation == 0:
		return api.ErrNone
	case slices.ContainsFunc(l, wrongRecord):
		return api.ErrArg
	case len(l) == 0:
		return api.OK
	}
	to := m.segment
	if b, _ := m.d.Read(nameOf(m.generation, to)); len(b) > 4096 {
		to++
	}
	return m.put(m.generation, to, row(l...))
}

func (m *model) anew(l ...string) api.Errno {
	switch {
	case m.down:
		return api.ErrDown
	case slices.ContainsFunc(l, wrongRecord):
		return api.ErrArg
	case m.generation == 999999999:
		return api.ErrFull
	}
	var behind []change
	for s := 1; s <= m.segment; s++ {
		name := nameOf(m.generation, s)
		behind = append(behind, func() api.Errno { return m.d.Remove(name) })
	}
	return m.put(m.generation+1, 1, segmentOf(l...), behind...)
}

// chance makes numbers that look like chance, the same ones at each run.
type chance uint64

func (c *chance) below(n int) int {
	*c = *c*6364136223846793005 + 1442695040888963407
	return int(uint64(*c) >> 33 % uint64(n))
}

func (c *chance) records() []string {
	sizes := []int{1, 1, 2, 3, 9, 30, 200, 700, 1500, 4085, 4096}
	var l []string
	for range c.below(4) {
		l = append(l, strconv.Itoa(c.below(10))+filling(sizes[c.below(len(sizes))]-1))
	}
	if c.below(12) == 0 {
		l = append(l, []string{"", filling(16385)}[c.below(2)])
	}
	return l
}

func (c *chance) picks() []int {
	var p []int
	for range c.below(6) {
		p = append(p, c.below(3)*c.below(5000)+c.below(20))
	}
	return p
}

// litter is a file as a test lays it on a disk: a segment, whole, torn or senseless, or none.
func (c *chance) litter() file {
	names := []string{"log.1.1", "log.1.2", "log.1.3", "log.2.1", "log.2.2", "log.3.1", "log.10.1", "log.10.2", "log.1.10", "log.999999999.1", "log.0.1", "log.01.1", "image"}
	data := ""
	if c.below(3) > 0 {
		data = framed(number(uint64(c.below(4))))
	}
	for range c.below(5) {
		data += framed(filling(c.below(9) + 1))
	}
	switch c.below(4) {
	case 0:
		data = data[:c.below(len(data)+1)]
	case 1:
		if len(data) > 0 {
			turned := []byte(data)
			turned[c.below(len(turned))] ^= byte(1 << c.below(8))
			data = string(turned)
		}
	}
	return file{names[c.below(len(names))], data}
}

// pair is a Wal and a model, on disks to which the same was done.
type pair struct {
	t *testing.T
	d *disk.Disk
	w *Wal // nil, till it is opened
	m model
}

// both does a change to both disks.
func (p *pair) both(f func(*disk.Disk)) {
	f(p.d)
	f(p.m.d)
}

func (p *pair) opens() api.Errno {
	w, l, why := Open(p.d)
	want, must := p.m.open()
	if why != must || !slices.Equal(texts(l), want) || (w == nil) != (why != api.OK) {
		p.t.Fatalf("Open: %.100q %d, not %.100q %d", texts(l), why, want, must)
	}
	p.w = w
	return why
}

// agree tells, if the disks or the Wals differ; what is kept of them is told behind a crash.
func (p *pair) agree() {
	if got, want := files(p.d), files(p.m.d); !slices.Equal(got, want) || p.d.Off() != p.m.d.Off() {
		p.t.Fatalf("%s %t, not %s %t", shown(got), p.d.Off(), shown(want), p.m.d.Off())
	}
	if p.w == nil {
		return
	}
	if g, s := p.w.Where(); g != p.m.generation || s != p.m.segment {
		p.t.Fatalf("Where: %d, %d, not %d, %d", g, s, p.m.generation, p.m.segment)
	}
}

// step does one thing to both, and tells what was answered.
func (p *pair) step(c *chance) api.Errno {
	l := c.records()
	var got, want api.Errno
	switch n := c.below(20); {
	case n < 2:
		armed := c.below(7) - 1
		p.both(func(d *disk.Disk) { d.Arm(armed) })
		return api.OK
	case n < 4:
		picks := c.picks()
		p.both(func(d *disk.Disk) { d.Crash(picks...) })
		return api.OK
	case p.w == nil || n < 7:
		return p.opens()
	case n < 10:
		got, want = p.w.Anew(list(l...)...), p.m.anew(l...)
	default:
		got, want = p.w.Add(list(l...)...), p.m.add(l...)
	}
	if got != want {
		p.t.Fatalf("answered %d, not %d", got, want)
	}
	return got
}

func TestScriptsAgainstAModel(t *testing.T) { // P10.1 to P10.5
	c := chance(10)
	seen := map[api.Errno]int{}
	for range 1500 {
		quota := c.below(30000)
		p := &pair{t: t, d: having(t, quota), m: model{d: having(t, quota)}}
		for range c.below(8) {
			f := c.litter()
			p.both(func(d *disk.Disk) { d.Append(f.name, []byte(f.data)) })
			if c.below(2) == 0 {
				p.both(func(d *disk.Disk) { d.Sync(f.name) })
			}
		}
		for range 40 {
			seen[p.step(&c)]++
			p.agree()
		}
		p.both(func(d *disk.Disk) { d.Crash() })
		p.agree()
		is(t, p.opens(), api.OK)
		p.agree()
	}
	for _, why := range []api.Errno{api.OK, api.ErrArg, api.ErrFull, api.ErrNone, api.ErrDown} {
		if seen[why] < 500 {
			t.Errorf("%d: seen %d times alone", why, seen[why])
		}
	}
}

func TestModelReadsFrames(t *testing.T) { // the model's frames are chapter 9's
	b := row("ab", "c")
	if l, upto := payloadsOf(b + "\x01"); !slices.Equal(l, []string{"ab", "c"}) || upto != len(b) {
		t.Errorf("%q %d", l, upto)
	}
	if crc32.ChecksumIEEE([]byte("123456789")) != 0xCBF43926 {
		t.Error("the sum is another one")
	}
}
