package disk

import (
	"math"
	"slices"
	"strings"
	"testing"

	"concord/api"
)

// entry is a file of a model: what is kept of it, and what came since.
type entry struct{ name, kept, since string }

// model is a disk told by texts.
type model struct {
	quota int
	files []entry // rising
	left  int
	off   bool
}

func (m *model) place(name string) int {
	return slices.IndexFunc(m.files, func(e entry) bool { return e.name == name })
}

func (m *model) total() int {
	n := 0
	for _, e := range m.files {
		n += len(e.kept + e.since)
	}
	return n
}

// put puts e in, for the one of its name.
func (m *model) put(e entry) {
	m.drop(e.name)
	m.files = append(m.files, e)
	slices.SortFunc(m.files, func(a, b entry) int { return strings.Compare(a.name, b.name) })
}

func (m *model) drop(name string) {
	m.files = slices.DeleteFunc(m.files, func(e entry) bool { return e.name == name })
}

// goes tells what a change is answered of which these words are true, and takes one that is left.
func (m *model) goes(path, none, arg, full bool) api.Errno {
	switch {
	case m.off:
		return api.ErrDown
	case path:
		return api.ErrPath
	case none:
		return api.ErrNone
	case arg:
		return api.ErrArg
	case full:
		return api.ErrFull
	case m.left == 0:
		m.off = true
		return api.ErrDown
	}
	m.left = max(m.left-1, -1)
	return api.OK
}

func badName(s string) bool {
	return s == "" || len(s) > 24 || strings.ContainsFunc(s, func(r rune) bool { return r <= ' ' || r > '~' })
}

func (m *model) append(name, data string) api.Errno {
	why := m.goes(badName(name), false, false, m.total()+len(data) > m.quota)
	if why != api.OK {
		return why
	}
	e := entry{name: name}
	if k := m.place(name); k >= 0 {
		e = m.files[k]
	}
	e.since += data
	m.put(e)
	return why
}

func (m *model) sync(name string) api.Errno {
	k := m.place(name)
	why := m.goes(false, k < 0, false, false)
	if why == api.OK {
		m.put(entry{name, m.files[k].kept + m.files[k].since, ""})
	}
	return why
}

func (m *model) cut(name string, n int) api.Errno {
	k := m.place(name)
	var e entry
	if k >= 0 {
		e = m.files[k]
	}
	why := m.goes(false, k < 0, n < 0 || n > len(e.kept+e.since), false)
	if why != api.OK {
		return why
	}
	if n > len(e.kept) {
		m.put(entry{name, e.kept, e.since[:n-len(e.kept)]})
	} else {
		m.put(entry{name, e.kept[:n], ""})
	}
	return why
}

func (m *model) rename(name, to string) api.Errno {
	k := m.place(name)
	why := m.goes(badName(to), k < 0, false, false)
	if why == api.OK {
		e := m.files[k]
		m.drop(name)
		m.put(entry{to, e.kept, e.since})
	}
	return why
}

func (m *model) remove(name string) api.Errno {
	why := m.goes(false, m.place(name) < 0, false, false)
	if why == api.OK {
		m.drop(name)
	}
	return why
}

func (m *model) crash(picks ...int) {
	for k, e := range m.files {
		stay := 0
		if k < len(picks) && picks[k] > 0 {
			stay = picks[k] % (len(e.since) + 1)
		}
		m.files[k] = entry{e.name, e.kept + e.since[:stay], ""}
	}
	m.left, m.off = -1, false
}

// tells is what holds asks for.
func (m *model) tells() []string {
	var l []string
	for _, e := range m.files {
		l = append(l, e.name, e.kept+e.since)
	}
	return l
}

// chance makes numbers that look like chance, the same ones at each run.
type chance uint64

func (c *chance) below(n int) int {
	*c = *c*6364136223846793005 + 1442695040888963407
	return int(uint64(*c) >> 33 % uint64(n))
}

func (c *chance) name() string {
	l := []string{"a", "a", "b", "c", "Ab", "ab", "~", "log.1.2", "", "c d", strings.Repeat("n", 25)}
	return l[c.below(len(l))]
}

func (c *chance) data() string { return "abcdefghijklmnop"[:c.below(17)] }

func (c *chance) picks() []int {
	l := []int{-1, 0, 1, 2, 3, 4, 5, 17, math.MaxInt, math.MinInt}
	var p []int
	for range c.below(7) {
		p = append(p, l[c.below(len(l))])
	}
	return p
}

// change does one to both, and tells what each answered.
func (c *chance) change(d *Disk, m *model) (api.Errno, api.Errno) {
	name, to := c.name(), c.name()
	switch c.below(8) {
	case 0, 1, 2:
		data := c.data()
		return d.Append(name, []byte(data)), m.append(name, data)
	case 3, 4:
		return d.Sync(name), m.sync(name)
	case 5:
		n := c.below(14) - 2
		return d.Cut(name, n), m.cut(name, n)
	case 6:
		return d.Rename(name, to), m.rename(name, to)
	default:
		return d.Remove(name), m.remove(name)
	}
}

// agree ends the test, if the disk tells otherwise than the model.
func agree(t *testing.T, d *Disk, m *model) {
	t.Helper()
	holds(t, d, m.tells()...)
	if d.Room() != m.quota-m.total() || d.Off() != m.off {
		t.Errorf("%s, not %d %t", told(d), m.quota-m.total(), m.off)
	}
	if t.Failed() {
		t.FailNow()
	}
}

func TestScriptsAgainstAModel(t *testing.T) { // P8.1 to P8.5
	c := chance(8)
	seen := map[api.Errno]int{}
	for range 3000 {
		quota := c.below(40)
		d, m := made(t, quota), &model{quota: quota, left: -1}
		for range 40 {
			switch c.below(15) {
			case 0:
				n := c.below(6) - 1
				d.Arm(n)
				m.left = n
			case 1, 2:
				picks := c.picks()
				d.Crash(picks...)
				m.crash(picks...)
			default:
				got, want := c.change(d, m)
				seen[got]++
				if got != want {
					t.Fatalf("answered %d, not %d", got, want)
				}
			}
			agree(t, d, m)
		}
	}
	for _, why := range []api.Errno{api.OK, api.ErrPath, api.ErrNone, api.ErrArg, api.ErrFull, api.ErrDown} {
		if seen[why] < 500 {
			t.Errorf("%d: seen %d times alone", why, seen[why])
		}
	}
}

func TestKeptIsNeverChangedByACrash(t *testing.T) { // P8.5
	for synced := range 4 {
		for cutTo := range 8 {
			for pick := -1; pick < 12; pick++ {
				d := made(t, 99)
				all := ""
				for k := range 3 { // several Appends, a Sync behind some of them
					if k == synced {
						fine(t, d.Append("a", nil), d.Sync("a"))
					}
					piece := []string{"xy", "zw", "uv"}[k]
					fine(t, d.Append("a", []byte(piece)))
					all += piece
				}
				kept := all[:min(synced, 2)*2]
				if synced == 3 {
					kept = all
					fine(t, d.Sync("a"))
				}
				if cutTo <= len(all) {
					fine(t, d.Cut("a", cutTo))
					all, kept = all[:cutTo], kept[:min(cutTo, len(kept))]
				}
				fine(t, d.Append("a", []byte("pq")))
				all += "pq"
				d.Crash(pick)
				data, _ := d.Read("a")
				if got := string(data); !strings.HasPrefix(got, kept) || !strings.HasPrefix(all, got) {
					t.Errorf("synced %d, cut %d, pick %d: %q of %q, %q kept", synced, cutTo, pick, got, all, kept)
				}
			}
		}
	}
}

func TestEachBeginningMayStay(t *testing.T) { // P8.4, P8.5
	since := "abcdefghij"
	for pick := range 3 * (len(since) + 1) {
		d := made(t, 99)
		fine(t, d.Append("a", []byte("kept")), d.Sync("a"), d.Append("a", []byte(since)))
		d.Crash(pick)
		want := pick
		for want > len(since) {
			want -= len(since) + 1
		}
		holds(t, d, "a", "kept"+since[:want])
	}
}
