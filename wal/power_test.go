package wal

import (
	"slices"
	"testing"

	"concord/api"
	"concord/disk"
)

// world is a disk with a past, and what its Wal's records are.
type world struct {
	what    string
	begin   func(t *testing.T) (*disk.Disk, *Wal)
	records []string
}

// worlds are pasts: none, an empty generation, some segments, one that is full, one that was torn.
func worlds() []world {
	big := filling(4100)
	made := func(anew []string, adds ...[]string) func(*testing.T) (*disk.Disk, *Wal) {
		return func(t *testing.T) (*disk.Disk, *Wal) {
			d := having(t, roomy, file{"image", "i"})
			w := opened(t, d, 0, 0)
			is(t, w.Anew(list(anew...)...), api.OK)
			for _, l := range adds {
				is(t, w.Add(list(l...)...), api.OK)
			}
			return d, w
		}
	}
	return []world{
		{"an empty generation", made(nil), nil},
		{"a few records", made([]string{"a", "b"}, []string{"c"}), []string{"a", "b", "c"}},
		{"a full segment", made([]string{big}), []string{big}},
		{"three segments", made([]string{"a"}, []string{big}, []string{big}, []string{"z"}), []string{"a", big, big, "z"}},
		{"a torn end", func(t *testing.T) (*disk.Disk, *Wal) {
			d, w := made([]string{"a"})(t)
			d.Arm(1)
			is(t, w.Add(list("one", "two")...), api.ErrDown)
			d.Crash(0, len(row("one"))+3)
			return d, opened(t, d, 1, 1, "a", "one")
		}, []string{"a", "one"}},
	}
}

// after opens the disk again and again, the power failing at each of the Opens' changes in turn, with the pick behind it;
// it tells the records that there are in the end, and if Opens, twice, don't come to the same.
func after(t *testing.T, d *disk.Disk, pick int) []string {
	t.Helper()
	for armed := 0; ; armed++ {
		d.Arm(armed)
		_, _, why := Open(d)
		if why == api.OK {
			break
		}
		is(t, why, api.ErrDown)
		d.Crash(pick, pick, pick, pick, pick)
	}
	d.Crash(pick, pick, pick, pick, pick)
	w, l, why := Open(d)
	is(t, why, api.OK)
	g, s := w.Where()
	left := files(d)
	d.Crash(pick, pick, pick, pick, pick)
	opened(t, d, g, s, texts(l)...)
	has(t, d, left...)
	return texts(l)
}

// picksOf are what may stay of n bytes: each number of them, and one more.
func picksOf(n int) int { return n + 2 }

func TestPowerFailsInAnAdd(t *testing.T) { // P10.6
	more := []string{"one", "t", "three"}
	for _, world := range worlds() {
		t.Log(world.what)
		for armed := range 4 {
			for pick := range picksOf(len(row(more...))) {
				d, w := world.begin(t)
				d.Arm(armed)
				why := w.Add(list(more...)...)
				d.Crash(pick, pick, pick, pick, pick)
				got := after(t, d, pick)
				came := len(got) - len(world.records)
				if came < 0 || came > len(more) || !slices.Equal(got, append(slices.Clone(world.records), more[:came]...)) {
					t.Fatalf("armed %d, pick %d: %.100q", armed, pick, got)
				}
				if (why == api.OK) != (armed >= 2) || why == api.OK && came < len(more) {
					t.Fatalf("armed %d, pick %d: answered %d, %d came", armed, pick, why, came)
				}
				if armed == 1 {
					stays := row(more...)[:pick%(len(row(more...))+1)]
					if whole := row(more[:came]...); len(whole) > len(stays) || came < 3 && len(row(more[:came+1]...)) <= len(stays) {
						t.Fatalf("pick %d: %d came of %d bytes", pick, came, len(stays))
					}
				}
			}
		}
	}
}

func TestPowerFailsInAnAnew(t *testing.T) { // P10.6
	none := world{"nothing", func(t *testing.T) (*disk.Disk, *Wal) {
		d := having(t, roomy)
		return d, opened(t, d, 0, 0)
	}, nil}
	for _, more := range [][]string{nil, {"n"}, {"one", "t", "three"}} {
		for _, world := range append(worlds(), none) {
			t.Log(world.what)
			all := len(segmentOf(more...))
			for armed := range 7 {
				for pick := range picksOf(all) {
					d, w := world.begin(t)
					d.Arm(armed)
					why := w.Anew(list(more...)...)
					g, _ := w.Where()
					d.Crash(pick, pick, pick, pick, pick)
					got := after(t, d, pick)
					// Kept by the Sync, or by chance, whole.
					comes := armed >= 2 || armed == 1 && pick == all
					want := world.records
					if comes {
						want = more
					}
					if !slices.Equal(got, want) {
						t.Fatalf("armed %d, pick %d: %.100q", armed, pick, got)
					}
					if why == api.OK && !comes {
						t.Fatalf("armed %d: answered OK", armed)
					}
					now := opened(t, d, reads(t, d), last(t, d), got...)
					if n, _ := now.Where(); why == api.OK && n != g {
						t.Fatalf("armed %d: generation %d, not %d", armed, n, g)
					}
				}
			}
		}
	}
}

// reads is the generation that Open finds.
func reads(t *testing.T, d *disk.Disk) int {
	t.Helper()
	w, _, why := Open(d)
	is(t, why, api.OK)
	g, _ := w.Where()
	return g
}

// last is the segment that Open finds.
func last(t *testing.T, d *disk.Disk) int {
	t.Helper()
	w, _, why := Open(d)
	is(t, why, api.OK)
	_, s := w.Where()
	return s
}

func TestWhatWasTornIsWrittenOver(t *testing.T) { // P10.6: what comes behind it is found
	for pick := range picksOf(len(row("torn"))) {
		for _, size := range []int{10, 4100} {
			d := having(t, roomy)
			w := opened(t, d, 0, 0)
			is(t, w.Anew(list(filling(size))...), api.OK)
			d.Arm(1)
			is(t, w.Add(list("torn")...), api.ErrDown)
			d.Crash(pick, pick)
			w, l, why := Open(d)
			is(t, why, api.OK)
			is(t, w.Add(list("new")...), api.OK)
			d.Crash()
			got := after(t, d, pick)
			if !slices.Equal(got, append(texts(l), "new")) {
				t.Fatalf("pick %d: %.100q, and new, became %.100q", pick, texts(l), got)
			}
		}
	}
}

func TestATornGenerationIsBegunAnew(t *testing.T) { // P10.6: nothing of it is left
	for armed := range 2 {
		for pick := range picksOf(len(segmentOf("x", "y"))) {
			d := having(t, roomy)
			w := opened(t, d, 0, 0)
			is(t, w.Anew(list("a")...), api.OK)
			d.Arm(armed)
			is(t, w.Anew(list("x", "y")...), api.ErrDown)
			d.Crash(0, pick)
			w, _, why := Open(d)
			is(t, why, api.OK)
			is(t, w.Anew(list("z")...), api.OK)
			if got := after(t, d, pick); !slices.Equal(got, []string{"z"}) {
				t.Fatalf("pick %d: %q", pick, got)
			}
		}
	}
}
