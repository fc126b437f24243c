package log

import (
	"slices"
	"testing"

	"concord/api"
)

// ballot is one of few, now and then one at the limits.
func (c *chance) ballot() api.Ballot {
	if c.below(20) == 0 {
		return ballot(1<<30, c.below(7))
	}
	return ballot(c.below(4), c.below(4))
}

// cell is one of few commands, attributes and ballots; now and then it isn't right.
func (c *chance) cell() api.Cell {
	p, v := c.ballot(), c.ballot()
	if below(p, v) && c.below(20) > 0 {
		p, v = v, p
	}
	if c.below(3) == 0 {
		v = api.Ballot{}
	}
	x := stands(c.below(4), p, v)
	if x.Status == api.Unknown && c.below(20) > 0 {
		return promised(p)
	}
	x.Same = x.Status == api.Preaccepted && v == api.Ballot{} && c.below(2) == 0
	if c.below(3) == 0 {
		x.Cmd.Seq = 1 + c.below(2)
	}
	if c.below(3) == 0 {
		x.Attr.Seq = c.below(3)
	}
	if c.below(40) == 0 {
		x = one(c, wrongCells()...)
	}
	return x
}

// inst is one of few, now and then beyond what may be.
func (c *chance) inst() api.Inst {
	if c.below(15) == 0 {
		return at(one(c, edges()...), one(c, edges()...))
	}
	return at(c.below(3)*3, 1+c.below(9))
}

// upto is up to where to trim: in most rows no further.
func (c *chance) upto() api.Deps {
	var d api.Deps
	for k := range d {
		d[k] = one(c, 0, 0, 0, -1, c.below(4), c.below(8))
	}
	return d
}

func TestScripts(t *testing.T) { // P16.1 to P16.5
	c := chance(16)
	taken, refusals, over, gone := 0, 0, 0, 0
	for script := range 500 {
		cut := row()
		if script%3 == 0 {
			cut = c.upto()
		}
		l, m := New(cut), modelOf(cut)
		for range 100 {
			i := c.inst()
			switch c.below(25) {
			case 0:
				// A few scripts go on without: so their cells grow old.
				if upto := c.upto(); script%4 != 0 {
					before := len(m.l)
					l.Trim(upto)
					m.trim(upto)
					gone += before - len(m.l)
				}
			case 1, 2, 3:
				x, is := l.Cell(i)
				if want, has := m.cell(i); x != want || is != has || l.Gone(i) != m.gone(i) {
					t.Fatalf("Cell(%d) = %+v, %t, gone: %t; not %+v", i, x, is, l.Gone(i), want)
				}
			default:
				x := c.cell()
				_, had := m.cell(i)
				want := m.set(i, x)
				if got := l.Set(i, x); got != want {
					t.Fatalf("Set(%d, %+v) = %t", i, x, got)
				}
				if want && had {
					over++
				}
				if want {
					taken++
				} else {
					refusals++
				}
			}
			like(t, l, m)
		}
	}
	if taken < 10000 || refusals < 10000 || over < 3000 || gone < 500 {
		t.Errorf("%d taken, %d of them over another one, %d refused, %d gone: this says little", taken, over, refusals, gone)
	}
}

func TestWhatIsCommittedNeverChangesAndNoBallotSinks(t *testing.T) { // P16.7: seen from without, by what Cell tells
	c := chance(17)
	committed, rose := 0, 0
	for range 300 {
		l := New(row())
		seen := map[api.Inst]api.Cell{}
		for range 150 {
			i := c.inst()
			l.Set(i, c.cell())
			if c.below(30) == 0 {
				l.Trim(c.upto())
			}
			for j, was := range seen {
				is, there := l.Cell(j)
				if !there {
					if !l.Gone(j) {
						t.Fatalf("the cell at %d is lost", j)
					}
					delete(seen, j)
					continue
				}
				if was.Status == api.Committed {
					committed++
					if is.Status != api.Committed || is.Cmd != was.Cmd || is.Attr != was.Attr {
						t.Fatalf("at %d %+v was committed, and is %+v", j, was, is)
					}
				}
				if below(is.Promised, was.Promised) || below(is.Voted, was.Voted) {
					t.Fatalf("at %d %+v sank to %+v", j, was, is)
				}
				if below(was.Promised, is.Promised) || below(was.Voted, is.Voted) {
					rose++
				}
				seen[j] = is
			}
			if x, there := l.Cell(i); there {
				seen[i] = x
			}
		}
	}
	if committed < 50000 || rose < 3000 {
		t.Errorf("%d committed, %d rose: this says little", committed, rose)
	}
}

func TestRecordsReplayedMakeTheSameLog(t *testing.T) { // P16.7
	c := chance(18)
	left := 0
	for script := range 300 {
		cut := c.upto()
		l := New(cut)
		var took, all [][]byte
		for range 120 {
			i, x := c.inst(), c.cell()
			b := Record(i, x)
			all = append(all, b)
			if l.Set(i, x) {
				took = append(took, b)
			}
			// With a Trim between: what is gone by the end counts for nothing.
			if script%2 == 0 && c.below(40) == 0 {
				l.Trim(c.upto())
			}
		}
		left += len(l.List())
		twins(t, l, replay(l.Cut(), took))
		// Those of refused ones are refused again.
		twins(t, l, replay(l.Cut(), all))
		// Trimmed behind all is as trimmed ahead.
		late := replay(cut, took)
		late.Trim(l.Cut())
		twins(t, l, late)
		// Played twice over they come to the same.
		twins(t, l, replay(l.Cut(), slices.Concat(took, took)))
	}
	if left < 2000 {
		t.Errorf("%d cells are left: this says little", left)
	}
}

// replay is a Log of this cut, of these records.
func replay(cut api.Deps, recs [][]byte) *Log {
	l := New(cut)
	for _, b := range recs {
		if i, c, why := Replay(b); why == api.OK {
			l.Set(i, c)
		}
	}
	return l
}

func TestTheOrderOfInstancesIsNobodys(t *testing.T) { // R4: nor is the map's
	c := chance(19)
	for range 40 {
		var l []entry
		for r := range api.MaxNodes {
			for slot := 1; slot <= 6; slot++ {
				l = append(l, entry{at(r, slot), one(&c, cells()...)})
			}
		}
		a, b := New(row()), New(row())
		for k, e := range l {
			o := l[len(l)-1-k]
			if !a.Set(e.i, e.c) || !b.Set(o.i, o.c) {
				t.Fatal("a Set is refused")
			}
		}
		for range 5 {
			twins(t, a, b)
		}
	}
}

func TestMany(t *testing.T) { // R1
	l := New(row())
	const n = 50000
	for slot := n; slot >= 1; slot-- {
		if !l.Set(at(slot%7, slot), first(api.Committed)) {
			t.Fatalf("Set(%d %d) is refused", slot%7, slot)
		}
	}
	all := l.List()
	if len(all) != n || all[0] != at(0, 7) || all[n-1] != at(6, n) || l.Top() != row(n-6, n-5, n-4, n-3, n-2, n-1, n) {
		t.Errorf("%d have cells; Top() = %d", len(all), l.Top())
	}
	l.Trim(alike(n - 3))
	if got := l.List(); !slices.Equal(got, []api.Inst{at(4, n-2), at(5, n-1), at(6, n)}) || l.Top() != row(n-3, n-3, n-3, n-3, n-2, n-1, n) {
		t.Errorf("List() = %d, Top() = %d", got, l.Top())
	}
}
