package disk

import (
	"bytes"
	"math"
	"slices"
	"strconv"
	"strings"
	"testing"

	"concord/api"
)

// made is a new disk, or the test ends.
func made(t *testing.T, quota int) *Disk {
	t.Helper()
	d, why := New(quota)
	if why != api.OK || d == nil {
		t.Fatalf("New(%d) = %v, %d", quota, d, why)
	}
	return d
}

// fine ends the test, if one of these was refused.
func fine(t *testing.T, l ...api.Errno) {
	t.Helper()
	for k, why := range l {
		if why != api.OK {
			t.Fatalf("change %d: %d", k, why)
		}
	}
}

// told is all that a disk tells of its files and its power.
func told(d *Disk) string {
	var b strings.Builder
	for _, name := range d.Names() {
		data, is := d.Read(name)
		b.WriteString(name + "=" + strconv.Quote(string(data)) + " " + strconv.FormatBool(is) + "; ")
	}
	b.WriteString(strconv.Itoa(d.Total()) + " " + strconv.Itoa(d.Room()) + " " + strconv.FormatBool(d.Off()))
	return b.String()
}

// holds tells of a disk's files, that they are these: a name and its bytes, by turns.
func holds(t *testing.T, d *Disk, l ...string) {
	t.Helper()
	var names []string
	total := 0
	for k := 0; k < len(l); k += 2 {
		names = append(names, l[k])
		total += len(l[k+1])
		if got, is := d.Read(l[k]); string(got) != l[k+1] || !is {
			t.Errorf("Read(%q) = %q, %t, not %q", l[k], got, is, l[k+1])
		}
	}
	if got := d.Names(); !slices.Equal(got, names) {
		t.Errorf("Names() = %q, not %q", got, names)
	}
	if got := d.Total(); got != total {
		t.Errorf("Total() = %d, not %d", got, total)
	}
}

// pair is a disk of 5 bytes, of which 4 are taken: of a's three two are kept, of b's one none.
func pair(t *testing.T) *Disk {
	t.Helper()
	d := made(t, 5)
	fine(t, d.Append("a", []byte("xy")), d.Sync("a"), d.Append("a", []byte("z")), d.Append("b", []byte("w")))
	return d
}

func TestTheLimitsAreApis(t *testing.T) { // the tables are written with these
	if api.MaxName != 24 || api.MaxDisk != 1<<20 {
		t.Fatal("the limits have other numbers")
	}
}

func TestRuns(t *testing.T) { // the chapter's runs
	d := made(t, 9)
	fine(t, d.Append("a", []byte{1, 2, 3}), d.Sync("a"), d.Append("a", []byte{4, 5}))
	d.Crash(1)
	if got, is := d.Read("a"); !bytes.Equal(got, []byte{1, 2, 3, 4}) || !is {
		t.Errorf("Read(a) = %d, %t", got, is)
	}
	if why := d.Append("b", make([]byte, 6)); why != api.ErrFull {
		t.Errorf("Append(b, six bytes) = %d", why)
	}
	d.Arm(1)
	if why := d.Append("b", []byte{1}); why != api.OK {
		t.Errorf("Append(b, 1) = %d", why)
	}
	if why := d.Sync("b"); why != api.ErrDown || !d.Off() {
		t.Errorf("Sync(b) = %d, Off() = %t", why, d.Off())
	}
}

func TestNew(t *testing.T) { // P8.1
	for _, quota := range []int{0, 1, 24, 4096, 1<<20 - 1, 1 << 20} {
		d := made(t, quota)
		if got := d.Names(); len(got) != 0 || d.Total() != 0 || d.Room() != quota || d.Off() {
			t.Errorf("New(%d): %q, %d, %d, %t", quota, got, d.Total(), d.Room(), d.Off())
		}
		if got, is := d.Read("a"); len(got) != 0 || is {
			t.Errorf("New(%d): Read = %d, %t", quota, got, is)
		}
		for range 1000 { // nothing is armed
			fine(t, d.Append("a", nil))
		}
	}
	for _, quota := range []int{-1, 1<<20 + 1, -1 << 20, 1 << 32, math.MinInt, math.MaxInt} {
		if d, why := New(quota); d != nil || why != api.ErrArg {
			t.Errorf("New(%d) = %v, %d", quota, d, why)
		}
	}
}

func TestDisksAreApart(t *testing.T) { // P8.1
	a, b := made(t, 9), made(t, 9)
	fine(t, a.Append("a", []byte("xyz")))
	a.Arm(0)
	a.Sync("a")
	if told(b) != "0 9 false" || !a.Off() {
		t.Errorf("%s, %s", told(a), told(b))
	}
}

// names are texts, and whether a file may have them.
func names() ([]string, []string) {
	right := []string{strings.Repeat("n", 24), strings.Repeat("~", 23), "log.1.1", "a/b", "..", "%"}
	wrong := []string{"", strings.Repeat("n", 25), strings.Repeat("n", 1000), " a", "a b", "a ", "a\x00", "\x7f", "é", "aé", "a\n", strings.Repeat("n", 23) + "\x80", "\xff"}
	for b := range 256 {
		if strings.IndexByte("!\"#$%&'()*+,-./0123456789:;<=>?@ABCDEFGHIJKLMNOPQRSTUVWXYZ[\\]^_`abcdefghijklmnopqrstuvwxyz{|}~", byte(b)) >= 0 {
			right = append(right, string([]byte{byte(b)}), string([]byte{'a', byte(b)}), string([]byte{byte(b), 'a'}))
		} else {
			wrong = append(wrong, string([]byte{byte(b)}), string([]byte{'a', byte(b)}), string([]byte{byte(b), 'a'}))
		}
	}
	return right, wrong
}

func TestNames(t *testing.T) { // P8.2: which names a file may have
	right, wrong := names()
	for _, name := range right {
		d := made(t, 9)
		fine(t, d.Append(name, []byte("x")))
		holds(t, d, name, "x")
		d = made(t, 9)
		fine(t, d.Append("old", []byte("x")), d.Rename("old", name))
		holds(t, d, name, "x")
		fine(t, d.Sync(name), d.Cut(name, 0), d.Rename(name, name), d.Remove(name))
	}
	for _, name := range wrong {
		d := made(t, 9)
		if why := d.Append(name, []byte("x")); why != api.ErrPath {
			t.Errorf("Append(%q) = %d", name, why)
		}
		fine(t, d.Append("old", []byte("x")))
		if why := d.Rename("old", name); why != api.ErrPath {
			t.Errorf("Rename to %q = %d", name, why)
		}
		// These only look for a file.
		for k, why := range []api.Errno{d.Sync(name), d.Cut(name, 0), d.Rename(name, "new"), d.Remove(name)} {
			if why != api.ErrNone {
				t.Errorf("%d of %q = %d", k, name, why)
			}
		}
		if got, is := d.Read(name); len(got) != 0 || is {
			t.Errorf("Read(%q) = %q, %t", name, got, is)
		}
		holds(t, d, "old", "x")
	}
}

// attempt is a change of the disk that pair makes, and what it is answered while there is power.
type attempt struct {
	name string
	do   func(d *Disk) api.Errno
	want api.Errno
}

func add(name, data string, want api.Errno) attempt {
	return attempt{"Append " + strconv.Quote(name) + " " + strconv.Quote(data), func(d *Disk) api.Errno { return d.Append(name, []byte(data)) }, want}
}

func synced(name string, want api.Errno) attempt {
	return attempt{"Sync " + strconv.Quote(name), func(d *Disk) api.Errno { return d.Sync(name) }, want}
}

func cut(name string, n int, want api.Errno) attempt {
	return attempt{"Cut " + strconv.Quote(name) + " " + strconv.Itoa(n), func(d *Disk) api.Errno { return d.Cut(name, n) }, want}
}

func renamed(name, to string, want api.Errno) attempt {
	return attempt{"Rename " + strconv.Quote(name) + " " + strconv.Quote(to), func(d *Disk) api.Errno { return d.Rename(name, to) }, want}
}

func removed(name string, want api.Errno) attempt {
	return attempt{"Remove " + strconv.Quote(name), func(d *Disk) api.Errno { return d.Remove(name) }, want}
}

func attempts() []attempt {
	long := strings.Repeat("n", 25)
	return []attempt{
		add("a", "", api.OK), add("a", "v", api.OK), add("b", "v", api.OK), add("c", "v", api.OK), add("c", "", api.OK),
		add("a", "uv", api.ErrFull), add("c", "uv", api.ErrFull), add("c", strings.Repeat("v", 1<<20+1), api.ErrFull),
		add("", "", api.ErrPath), add("", "uv", api.ErrPath), add(long, "v", api.ErrPath), add(long, "uv", api.ErrPath), add("c\x7f", "uv", api.ErrPath),
		synced("a", api.OK), synced("b", api.OK), synced("c", api.ErrNone), synced("", api.ErrNone), synced(long, api.ErrNone),
		cut("a", 0, api.OK), cut("a", 1, api.OK), cut("a", 2, api.OK), cut("a", 3, api.OK), cut("b", 0, api.OK),
		cut("a", 4, api.ErrArg), cut("a", -1, api.ErrArg), cut("b", 2, api.ErrArg), cut("a", math.MinInt, api.ErrArg), cut("a", math.MaxInt, api.ErrArg),
		cut("c", 0, api.ErrNone), cut("c", -1, api.ErrNone), cut("c", 9, api.ErrNone), cut("", 0, api.ErrNone), cut(long, -1, api.ErrNone),
		renamed("a", "b", api.OK), renamed("a", "c", api.OK), renamed("a", "a", api.OK), renamed("b", "a", api.OK),
		renamed("a", "", api.ErrPath), renamed("a", long, api.ErrPath), renamed("c", "", api.ErrPath), renamed("", "", api.ErrPath), renamed("c", "d ", api.ErrPath),
		renamed("c", "a", api.ErrNone), renamed("c", "c", api.ErrNone), renamed("c", "d", api.ErrNone), renamed("", "a", api.ErrNone), renamed(long, "d", api.ErrNone),
		removed("a", api.OK), removed("b", api.OK), removed("c", api.ErrNone), removed("", api.ErrNone), removed(long, api.ErrNone),
	}
}

func TestTheFirstRefusalThatApplies(t *testing.T) { // P8.2: the order of the refusals, and R3
	for _, a := range attempts() {
		for _, left := range []int{math.MinInt, -1, 1, 2, math.MaxInt} {
			d := pair(t)
			d.Arm(left)
			if why := a.do(d); why != a.want || d.Off() {
				t.Errorf("%s with %d left: %d, not %d; %t", a.name, left, why, a.want, d.Off())
			}
		}
		none := pair(t)
		none.Arm(0)
		want := a.want
		if want == api.OK {
			want = api.ErrDown
		}
		if why := a.do(none); why != want || none.Off() != (want == api.ErrDown) {
			t.Errorf("%s with none left: %d, not %d; %t", a.name, why, want, none.Off())
		}
		down := pair(t)
		down.Arm(0)
		down.Sync("a")
		if why := a.do(down); why != api.ErrDown || !down.Off() {
			t.Errorf("%s without power: %d; %t", a.name, why, down.Off())
		}
	}
}

func TestWhatIsRefusedChangesNothing(t *testing.T) { // P8.2 and R3
	for _, a := range attempts() {
		for _, left := range []int{-1, 0, 1} {
			d, still := pair(t), pair(t)
			d.Arm(left)
			if why := a.do(d); why == api.OK {
				continue
			} else if why == api.ErrDown { // the power alone
				still.Arm(0)
				still.Sync("a")
			}
			if told(d) != told(still) {
				t.Errorf("%s, refused: %s", a.name, told(d))
			}
			// What is kept, too.
			for _, picks := range [][]int{nil, {0, 1}, {1, 0}} {
				d.Crash(picks...)
				still.Crash(picks...)
				if told(d) != told(still) {
					t.Errorf("%s, refused, behind a Crash: %s", a.name, told(d))
				}
			}
		}
	}
}

func TestEachChangeTakesOneThatIsLeft(t *testing.T) { // P8.2, P8.4
	for _, a := range attempts() {
		d := pair(t)
		d.Arm(2)
		took := 0
		if a.do(d) == api.OK {
			took = 1
		}
		for ; took < 2; took++ {
			if why := d.Append("z", nil); why != api.OK || d.Off() {
				t.Errorf("%s: behind %d changes of 2: %d, %t", a.name, took, why, d.Off())
			}
		}
		if why := d.Append("z", nil); why != api.ErrDown || !d.Off() {
			t.Errorf("%s: behind 2 changes of 2: %d, %t", a.name, why, d.Off())
		}
	}
}

func TestArm(t *testing.T) { // P8.4
	for n := range 6 {
		d := made(t, 9)
		d.Arm(n)
		for k := range n {
			if why := d.Append("a", []byte("x")); why != api.OK || d.Off() {
				t.Fatalf("Arm(%d): change %d: %d", n, k, why)
			}
			// These are no changes.
			d.Read("a")
			d.Names()
			d.Total()
			d.Room()
		}
		for range 3 {
			if why := d.Append("a", []byte("x")); why != api.ErrDown || !d.Off() {
				t.Fatalf("Arm(%d): behind it %d, %t", n, why, d.Off())
			}
		}
		if got, is := d.Read("a"); string(got) != strings.Repeat("x", n) || is != (n > 0) {
			t.Errorf("Arm(%d): Read(a) = %q, %t", n, got, is)
		}
	}
}

func TestArmAgain(t *testing.T) { // P8.4
	for _, n := range []int{-1, -2, math.MinInt} {
		d := made(t, 9)
		d.Arm(0)
		d.Arm(n)
		for range 1000 {
			fine(t, d.Append("a", nil))
		}
	}
	d := made(t, 9)
	d.Arm(1)
	d.Arm(3)
	fine(t, d.Append("a", nil), d.Sync("a"), d.Cut("a", 0))
	if why := d.Remove("a"); why != api.ErrDown {
		t.Errorf("armed again: %d", why)
	}
	for _, n := range []int{-1, 0, 5} { // it is no power
		d.Arm(n)
		if why := d.Remove("a"); why != api.ErrDown || !d.Off() {
			t.Errorf("Arm(%d) without power: %d, %t", n, why, d.Off())
		}
	}
}

func TestWithoutPowerItIsStillRead(t *testing.T) { // P8.2, P8.3
	d := pair(t)
	d.Arm(0)
	d.Remove("a")
	holds(t, d, "a", "xyz", "b", "w")
	if told(d) != `a="xyz" true; b="w" true; 4 1 true` {
		t.Error(told(d))
	}
}

func TestCrashBringsPower(t *testing.T) { // P8.4
	for _, left := range []int{-1, 0, 1, 7} {
		d := pair(t)
		d.Arm(left)
		d.Crash()
		if d.Off() {
			t.Errorf("%d left: off", left)
		}
		for range 100 { // nothing is armed
			fine(t, d.Append("a", nil))
		}
		d.Arm(0)
		d.Sync("a")
		d.Arm(left)
		d.Crash()
		for range 100 {
			fine(t, d.Append("a", nil))
		}
	}
}

func TestAppend(t *testing.T) { // P8.2
	d := made(t, 9)
	fine(t, d.Append("b", nil))
	holds(t, d, "b", "")
	fine(t, d.Append("a", []byte{}), d.Append("b", []byte("xy")), d.Append("b", []byte("z")), d.Append("b", nil))
	holds(t, d, "a", "", "b", "xyz")
	d.Crash() // a file of which nothing is kept is there all the same
	holds(t, d, "a", "", "b", "")
	fine(t, d.Append("b", []byte{0, 255, '\n'}), d.Sync("b"))
	d.Crash()
	holds(t, d, "a", "", "b", "\x00\xff\n")
}

func TestSync(t *testing.T) { // P8.2
	d := made(t, 9)
	fine(t, d.Append("a", []byte("x")), d.Append("b", []byte("y")), d.Sync("b"), d.Sync("b"), d.Append("b", []byte("z")))
	d.Crash()
	holds(t, d, "a", "", "b", "y")
	fine(t, d.Append("a", []byte("pq")), d.Sync("a"), d.Append("b", nil), d.Sync("b"))
	d.Crash()
	holds(t, d, "a", "pq", "b", "y")
}

func TestCut(t *testing.T) { // P8.2
	for n, want := range []struct{ has, kept string }{{"", ""}, {"x", "x"}, {"xy", "xy"}, {"xyz", "xy"}, {"xyzw", "xy"}} {
		d := made(t, 9)
		fine(t, d.Append("a", []byte("xy")), d.Sync("a"), d.Append("a", []byte("zw")), d.Cut("a", n))
		holds(t, d, "a", want.has)
		// What comes behind a cut isn't kept, though as many bytes were.
		fine(t, d.Append("a", []byte("uv")))
		holds(t, d, "a", want.has+"uv")
		d.Crash()
		holds(t, d, "a", want.kept)
	}
}

func TestRename(t *testing.T) { // P8.2
	d := pair(t)
	fine(t, d.Rename("a", "c"))
	holds(t, d, "b", "w", "c", "xyz")
	d.Crash(1)
	holds(t, d, "b", "w", "c", "xy")
	d = pair(t)
	fine(t, d.Rename("a", "b"))
	holds(t, d, "b", "xyz")
	if d.Room() != 2 {
		t.Errorf("Room() = %d", d.Room())
	}
	d.Crash()
	holds(t, d, "b", "xy")
	d = pair(t)
	fine(t, d.Rename("b", "a"))
	holds(t, d, "a", "w")
	d.Crash() // what was kept of the other one counts for nothing
	holds(t, d, "a", "")
	d = pair(t)
	fine(t, d.Rename("a", "a"))
	holds(t, d, "a", "xyz", "b", "w")
	d.Crash()
	holds(t, d, "a", "xy", "b", "")
	d = pair(t) // the old name is free
	fine(t, d.Rename("a", "c"), d.Append("a", []byte("v")))
	holds(t, d, "a", "v", "b", "w", "c", "xyz")
}

func TestRemove(t *testing.T) { // P8.2
	d := pair(t)
	fine(t, d.Remove("a"))
	holds(t, d, "b", "w")
	fine(t, d.Append("a", []byte("pqrs")))
	d.Crash() // what was kept of the one that had the name counts for nothing
	holds(t, d, "a", "", "b", "")
	fine(t, d.Remove("a"), d.Remove("b"))
	holds(t, d)
	d.Crash(3, 3)
	holds(t, d)
}

func TestTheQuotaIsOfAllFiles(t *testing.T) { // P8.2
	for _, quota := range []int{0, 1, 2, 9, 4096, 1 << 20} {
		for have := 0; have <= quota; have += max(quota/3, 1) {
			d := made(t, quota)
			fine(t, d.Append("a", make([]byte, have/2)), d.Append("b", make([]byte, have-have/2)))
			if got := d.Room(); got != quota-have {
				t.Errorf("Room() = %d of %d", got, quota-have)
			}
			for _, more := range []int{1, 2, quota + 1} {
				if why := d.Append("a", make([]byte, quota-have+more)); why != api.ErrFull {
					t.Errorf("%d and %d of %d: %d", have, quota-have+more, quota, why)
				}
			}
			fine(t, d.Append("c", make([]byte, quota-have)), d.Append("c", nil), d.Append("d", nil))
			if d.Room() != 0 || d.Total() != quota {
				t.Errorf("%d and %d", d.Total(), d.Room())
			}
			if why := d.Append("e", []byte("x")); why != api.ErrFull {
				t.Errorf("full: %d", why)
			}
		}
	}
}

func TestWhatIsGoneMakesRoom(t *testing.T) { // P8.2, P8.3
	for k, free := range []func(d *Disk){
		func(d *Disk) { d.Remove("a") },
		func(d *Disk) { d.Cut("a", 0) },
		func(d *Disk) { d.Rename("b", "a") },
		func(d *Disk) { d.Crash() },
	} {
		d := made(t, 5)
		fine(t, d.Append("a", []byte("xyz")), d.Append("b", []byte("wv")), d.Sync("b"))
		if why := d.Append("c", []byte("u")); why != api.ErrFull {
			t.Errorf("%d: full: %d", k, why)
		}
		free(d)
		if d.Room() != 3 || d.Total() != 2 {
			t.Errorf("%d: %s", k, told(d))
		}
		if why := d.Append("c", []byte("pqrs")); why != api.ErrFull {
			t.Errorf("%d: one too many: %d", k, why)
		}
		fine(t, d.Append("c", []byte("pqr")))
	}
}

func TestNamesRise(t *testing.T) { // P8.3
	d := made(t, 0)
	right, _ := names()
	for _, name := range right {
		fine(t, d.Append(name, nil))
	}
	l := d.Names()
	for k := range l[1:] {
		if l[k] >= l[k+1] {
			t.Errorf("%q behind %q", l[k+1], l[k])
		}
	}
	for _, name := range right {
		if !slices.Contains(l, name) {
			t.Errorf("%q is missing", name)
		}
	}
	for range 20 {
		if !slices.Equal(d.Names(), l) {
			t.Fatal("told otherwise")
		}
	}
}

func TestCrashByPicks(t *testing.T) { // P8.4
	for _, c := range []struct {
		picks []int
		want  string // of five bytes behind two that are kept
	}{
		{nil, "ab"}, {[]int{}, "ab"}, {[]int{0}, "ab"}, {[]int{1}, "abc"}, {[]int{2}, "abcd"}, {[]int{5}, "abcdefg"},
		{[]int{6}, "ab"}, {[]int{7}, "abc"}, {[]int{11}, "abcdefg"}, {[]int{12}, "ab"}, {[]int{6000003}, "abcde"},
		{[]int{-1}, "ab"}, {[]int{-5}, "ab"}, {[]int{math.MinInt}, "ab"}, {[]int{math.MaxInt}, "abc"}, {[]int{math.MaxInt - 1}, "ab"},
		{[]int{3, 1, 1, 1}, "abcde"},
	} {
		d := made(t, 9)
		fine(t, d.Append("n", []byte("ab")), d.Sync("n"), d.Append("n", []byte("cdefg")))
		d.Crash(c.picks...)
		holds(t, d, "n", c.want)
		d.Crash() // all that it has is kept
		holds(t, d, "n", c.want)
		d.Crash(1, 1)
		holds(t, d, "n", c.want)
	}
}

func TestPicksGoByRisingNames(t *testing.T) { // P8.4
	l := []string{"!", "A", "B", "Ba", "a", "log.1.1", "log.1.10", "log.1.2", "log.2.1", "~"}
	for turn := range l {
		d := made(t, 1000)
		for k := range l { // they come in another order
			fine(t, d.Append(l[(k*3+turn)%len(l)], []byte("0123456789")))
		}
		fine(t, d.Sync("Ba"), d.Cut("a", 4))
		d.Crash(1, 2, 3, 4, 5, -6, 7, 8)
		holds(t, d, "!", "0", "A", "01", "B", "012", "Ba", "0123456789", "a", "", "log.1.1", "", "log.1.10", "0123456", "log.1.2", "01234567", "log.2.1", "", "~", "")
	}
}

func TestCrashOfNoFiles(t *testing.T) { // P8.4
	d := made(t, 9)
	d.Crash()
	d.Crash(1, 2, 3)
	if told(d) != "0 9 false" {
		t.Error(told(d))
	}
}

// spare is a list with bytes in its spare room.
func spare(s string) []byte {
	return append(make([]byte, 0, len(s)+20), s+"****************"...)[:len(s)]
}

func TestWhatIsHandedInIsNeitherChangedNorKept(t *testing.T) { // R2
	d := made(t, 99)
	p := spare("xyz")
	fine(t, d.Append("a", p), d.Append("a", []byte("w")), d.Append("b", p[:1]), d.Append("b", []byte("v")))
	if string(p[:19]) != "xyz****************" {
		t.Errorf("changed: %q", p[:19])
	}
	q := spare("u")
	fine(t, d.Append("c", q)) // nothing comes behind it
	clear(p[:cap(p)])
	clear(q[:cap(q)])
	holds(t, d, "a", "xyzw", "b", "xv", "c", "u")
	picks := []int{-1, 7, 9, 9}
	d.Crash(picks[:2]...)
	if !slices.Equal(picks, []int{-1, 7, 9, 9}) {
		t.Errorf("changed: %d", picks)
	}
}

func TestAnswersAreNewMemory(t *testing.T) { // R2, P8.3
	d := made(t, 99)
	fine(t, d.Append("a", []byte("xyz")), d.Append("a", []byte("w")), d.Cut("a", 2), d.Append("b", []byte("v")))
	want := told(d)
	for range 2 {
		got, _ := d.Read("a")
		other, _ := d.Read("a")
		clear(got[:cap(got)])
		if string(other) != "xy" {
			t.Errorf("two answers share: %q", other)
		}
		l := d.Names()
		clear(l[:cap(l)])
		if told(d) != want {
			t.Errorf("an answer was the disk's: %s", told(d))
		}
	}
	got, _ := d.Read("a")
	fine(t, d.Append("a", []byte("pq")), d.Cut("a", 0), d.Append("a", []byte("rs")))
	if string(got) != "xy" {
		t.Errorf("an answer changed: %q", got)
	}
}
