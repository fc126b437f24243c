package interf

import (
	"slices"
	"testing"

	"concord/api"
	"concord/deps"
)

func equal(a, b []int) bool { return slices.Equal(a, b) }

// inst is one of few slots, now and then beyond what may be.
func (c *chance) inst() api.Inst {
	if c.below(12) == 0 {
		return at(one(c, edges()...), one(c, edges()...))
	}
	return at(c.below(7), 1+c.below(12))
}

// seq is a right one, now and then one that isn't.
func (c *chance) seq() int {
	return one(c, 0, 1, 2, c.below(50), c.below(50), c.below(50), 1<<40-1, 1<<40, -1, 1<<40+1)
}

// upto is up to where to prune: in most rows no further.
func (c *chance) upto() api.Deps {
	var d api.Deps
	for k := range d {
		d[k] = one(c, 0, 0, 0, -1, c.below(8), c.below(12))
	}
	return d
}

func TestScripts(t *testing.T) { // P14.1 to P14.4
	c := chance(14)
	taken, refused := 0, 0
	for script := range 400 {
		x, m := New(), &model{}
		for range 80 {
			d := c.command()
			if c.below(20) == 0 {
				d = c.wrong(d)
			}
			i, seq := c.inst(), c.seq()
			switch c.below(20) {
			case 0, 1, 2, 3, 4, 5, 6, 7, 8:
				want := m.note(i, d, seq)
				if got := x.Note(i, d, seq); got != want {
					t.Fatalf("Note(%d, %v, %d) = %t", i, d, seq, got)
				}
				if want {
					taken++
				} else {
					refused++
				}
			case 9:
				// A few scripts go on without: so their rows grow long.
				if upto := c.upto(); script%4 != 0 {
					x.Prune(upto)
					m.prune(upto)
				}
			default:
				if got, want := x.Attr(i, d), m.attr(i, d); got != want {
					t.Fatalf("Attr(%d, %v) = %d, not %d", i, d, got, want)
				}
			}
			like(t, x, m)
		}
	}
	if taken < 3000 || refused < 3000 {
		t.Errorf("%d taken, %d refused: this says little", taken, refused)
	}
}

func TestPruningTakesNothingAway(t *testing.T) { // P14.5
	c := chance(15)
	less := 0
	for range 300 {
		x := New()
		for range 40 {
			x.Note(at(c.below(7), 1+c.below(9)), c.command(), c.below(50))
		}
		upto := c.upto()
		type asked struct {
			i api.Inst
			c api.Command
			a api.Attr
		}
		var l []asked
		for range 40 {
			i, d := at(c.below(7), 1+c.below(12)), c.command()
			l = append(l, asked{i, d, x.Attr(i, d)})
		}
		x.Prune(upto)
		for _, q := range l {
			a := x.Attr(q.i, q.c)
			if !deps.Covers(a.Deps, q.a.Deps) {
				t.Fatalf("Prune(%d): Attr(%d, %v) = %d, and ahead %d", upto, q.i, q.c, a, q.a)
			}
			if a.Seq > q.a.Seq {
				t.Fatalf("Prune(%d): the Seq of %d, %v is %d, and ahead %d", upto, q.i, q.c, a.Seq, q.a.Seq)
			}
			if a.Seq < q.a.Seq {
				less++
			}
		}
	}
	if less < 100 {
		t.Errorf("%d Seqs are less: this says little", less)
	}
}

func TestOfTwoThatClashOneReachesTheOther(t *testing.T) { // P14.5: as replicas use it, Note behind Attr
	c := chance(16)
	pairs := 0
	for range 200 {
		x := New()
		type stood struct {
			entry
			a api.Attr
		}
		var l []stood
		next := [7]int{}
		for step := range 60 {
			r := c.below(7)
			next[r]++
			i, d := at(r, next[r]), c.command()
			a := x.Attr(i, d)
			if !x.Note(i, d, a.Seq) {
				t.Fatalf("Note(%d, %v, %d) is refused", i, d, a.Seq)
			}
			for _, o := range l {
				if !clash(o.c, d) {
					continue
				}
				pairs++
				if !deps.Reach(a.Deps, o.i) || !deps.Reach(x.Cut(), o.i) && a.Seq <= o.seq {
					t.Fatalf("%v at %d, %d, doesn't reach %v at %d, %d", d, i, a, o.c, o.i, o.seq)
				}
			}
			l = append(l, stood{entry{i, d, a.Seq}, a})
			if step%20 == 19 {
				var upto api.Deps
				for k := range upto {
					upto[k] = c.below(next[k] + 1)
				}
				x.Prune(upto)
			}
		}
	}
	if pairs < 50000 {
		t.Errorf("%d pairs clash: this says little", pairs)
	}
}

func TestTheOrderOfNotesIsNobodys(t *testing.T) { // R4: nor is the map's
	c := chance(17)
	for range 50 {
		var l []entry
		for r := range 7 {
			for slot := 1; slot <= 5; slot++ {
				l = append(l, entry{at(r, slot), c.command(), c.below(50)})
			}
		}
		upto := c.upto()
		x, y := New(), New()
		for k := range l {
			x.Note(l[k].i, l[k].c, l[k].seq)
			o := l[len(l)-1-k]
			y.Note(o.i, o.c, o.seq)
		}
		want := told(x)
		for range 5 {
			if !equal(told(x), want) || !equal(told(y), want) {
				t.Fatalf("in another order %v tells something else", l)
			}
		}
		// What is cut off ahead of its Note is as what is cut off behind it.
		z := New()
		z.Prune(upto)
		for _, e := range l {
			z.Note(e.i, e.c, e.seq)
		}
		x.Prune(upto)
		if !equal(told(x), told(z)) {
			t.Fatalf("Prune(%d) ahead and behind tell different things of %v", upto, l)
		}
	}
}

func TestMany(t *testing.T) { // R1
	x := New()
	const n = 50000
	for slot := 1; slot <= n; slot++ {
		x.Note(at(slot%7, slot), put(1+slot%7, "a"), slot)
	}
	if a := x.Attr(at(0, 1<<30), put(8, "a")); x.Len() != n || a.Seq != n+1 || a.Deps[n%7] != n || a.Deps[0] != 1<<30-1 {
		t.Errorf("Len() = %d, Attr = %d", x.Len(), a)
	}
	x.Prune(alike(n - 3))
	if a := x.Attr(at(0, 1), put(8, "a")); x.Len() != 3 || a.Seq != n+1 || a.Deps[n%7] != n || a.Deps[(n-5)%7] != n-3 {
		t.Errorf("Len() = %d, Attr = %d", x.Len(), a)
	}
}
