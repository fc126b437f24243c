package core

import (
	"slices"
	"strings"
	"testing"

	"concord/api"
	"concord/log"
)

func TestNewRefuses(t *testing.T) { // P18.1
	for _, n := range edges() {
		for _, me := range edges() {
			c, why := New(n, me, row(), nil)
			fits := (n == 3 || n == 5 || n == 7) && me >= 0 && me < n
			if fits != (why == api.OK) || fits != (c != nil) || !fits && why != api.ErrArg {
				t.Errorf("New(%d, %d) = %v, %d", n, me, c, why)
			}
		}
	}
	for r := range api.MaxNodes {
		for _, slot := range edges() {
			c, why := New(3, 1, alone(r, slot), nil)
			fits := slot >= 0 && slot <= 1<<30
			if fits != (why == api.OK) || fits != (c != nil) || !fits && why != api.ErrArg {
				t.Errorf("New of slot %d in row %d = %v, %d", slot, r, c, why)
			}
			if fits && (c.Cut() != alone(r, slot) || c.Top() != alone(r, slot)) {
				t.Errorf("of slot %d in row %d: Cut() = %d, Top() = %d", slot, r, c.Cut(), c.Top())
			}
		}
	}
}

func TestNewBeginsQuiet(t *testing.T) { // P18.1
	l := []stand{
		{at(0, 1), same(zero(), putA(), attr(0))},
		{at(1, 2), accepted(ballot(1, 1), ballot(1, 1), putB(), attr(0, 0, 1))},
		{at(2, 7), promised(ballot(3, 0))},
	}
	c := madeOf(t, 3, 0, row(0, 1), l...)
	quiet(t, c)
	busy(t, c, 0, 0)
	if c.Top() != row(1, 2, 7) || c.Cut() != row(0, 1) {
		t.Errorf("Top() = %d, Cut() = %d", c.Top(), c.Cut())
	}
	for _, s := range l {
		if x, is := c.Cell(s.i); x != s.x || !is {
			t.Errorf("Cell(%d) = %+v, %t", s.i, x, is)
		}
	}
	for _, i := range []api.Inst{at(1, 1), at(0, 2), at(2, 6), at(3, 1), at(-1, 1), at(0, 0)} {
		if x, is := c.Cell(i); x != (api.Cell{}) || is {
			t.Errorf("Cell(%d) = %+v, %t", i, x, is)
		}
	}
}

func TestNewTakesRecordsInTheirOrder(t *testing.T) { // P18.1
	i := at(1, 4)
	early, late := same(zero(), putA(), attr(1)), committed(ballot(2, 2), zero(), putA(), attr(1))
	other := accepted(ballot(9, 0), ballot(9, 0), putB(), attr(5))
	for _, v := range []struct {
		what string
		recs [][]byte
		want api.Cell
	}{
		{"rising", [][]byte{log.Record(i, early), log.Record(i, late)}, late},
		{"sinking", [][]byte{log.Record(i, late), log.Record(i, early)}, late},
		{"over what is committed", [][]byte{log.Record(i, late), log.Record(i, other)}, late},
		{"over what isn't", [][]byte{log.Record(i, early), log.Record(i, other)}, other},
		{"with what is torn between", [][]byte{log.Record(i, early), log.Record(i, late)[:5], nil, {}, []byte("none"), append(log.Record(i, late), 0)}, early},
		{"behind what is torn", [][]byte{nil, {1}, log.Record(i, early)}, early},
		{"of other instances", [][]byte{log.Record(at(1, 3), late), log.Record(at(7, 4), late), log.Record(at(1, 0), late), log.Record(i, early)}, early},
	} {
		c, why := New(3, 0, row(), v.recs)
		if why != api.OK {
			t.Fatalf("%s: %d", v.what, why)
		}
		if x, is := c.Cell(i); x != v.want || !is {
			t.Errorf("%s: %+v, %t", v.what, x, is)
		}
	}
	c := madeOf(t, 3, 0, row(0, 4), stand{i, late})
	if x, is := c.Cell(i); x != (api.Cell{}) || is || c.Top() != row(0, 4) {
		t.Errorf("what is gone stands again: %+v, %t", x, is)
	}
	// A cell of a row that none of the cluster has stands, too, but is nobody's.
	c = madeOf(t, 3, 0, row(), stand{at(6, 2), late})
	if x, _ := c.Cell(at(6, 2)); x != late || c.Top() != row(0, 0, 0, 0, 0, 0, 2) {
		t.Errorf("of row 6: %+v, %d", x, c.Top())
	}
}

// depends is what a core of these cells lets put a depend on.
func depends(t *testing.T, cut api.Deps, l ...stand) api.Attr {
	t.Helper()
	c := madeOf(t, 3, 0, cut, l...)
	i, ok := c.Propose(put(8, 1, "a"))
	x, is := c.Cell(i)
	if !ok || !is {
		t.Fatalf("Propose = %d, %t", i, ok)
	}
	return x.Attr
}

func TestNewNotes(t *testing.T) { // P18.1
	for _, v := range []struct {
		what string
		cut  api.Deps
		l    []stand
		want api.Attr
	}{
		{"nothing", row(), nil, attr(0)},
		{"a promise", row(), []stand{{at(1, 3), promised(ballot(4, 0))}}, attr(0)},
		{"a promise in its own row", row(), []stand{{at(0, 3), promised(ballot(4, 0))}}, attr(0, 3)},
		{"a proposal", row(), []stand{{at(1, 3), pre(zero(), zero(), putA(), attr(6))}}, attr(7, 0, 3)},
		{"what is accepted", row(), []stand{{at(1, 3), accepted(zero(), zero(), putA(), attr(6))}}, attr(7, 0, 3)},
		{"what is committed", row(), []stand{{at(1, 3), committed(zero(), zero(), putA(), attr(6))}}, attr(7, 0, 3)},
		{"what does nothing", row(), []stand{{at(1, 3), committed(zero(), zero(), api.Command{}, attr(6))}}, attr(0)},
		{"what doesn't clash", row(), []stand{{at(1, 3), committed(zero(), zero(), putB(), attr(6))}}, attr(0)},
		{"the last one at an instance", row(), []stand{{at(1, 3), pre(zero(), zero(), putA(), attr(6))}, {at(1, 3), accepted(ballot(1, 0), ballot(1, 0), putB(), attr(6))}}, attr(0)},
		{"one that is refused", row(), []stand{{at(1, 3), accepted(ballot(1, 0), ballot(1, 0), putB(), attr(6))}, {at(1, 3), pre(zero(), zero(), putA(), attr(6))}}, attr(0)},
		{"a later promise", row(), []stand{{at(1, 3), pre(zero(), zero(), putA(), attr(6))}, {at(1, 3), pre(ballot(2, 0), zero(), putA(), attr(6))}}, attr(7, 0, 3)},
		{"what is gone", row(0, 3), []stand{{at(1, 3), committed(zero(), zero(), putA(), attr(6))}}, attr(0, 0, 3)},
		{"a cut", row(2, 1, 9), []stand{{at(1, 3), committed(zero(), zero(), putA(), attr(6))}}, attr(7, 2, 3, 9)},
	} {
		if a := depends(t, v.cut, v.l...); a != v.want {
			t.Errorf("%s: %+v", v.what, a)
		}
	}
}

func TestWhatIsHandedInIsNotKept(t *testing.T) { // R2
	x := committed(zero(), zero(), putA(), attr(3))
	b := log.Record(at(1, 1), x)
	recs := make([][]byte, 1, 4)
	recs[0] = slices.Clip(slices.Clone(b))
	recs[:2][1] = []byte("room")
	c, _ := New(3, 0, row(), recs)
	if !slices.Equal(recs[0], b) || string(recs[:2][1]) != "room" {
		t.Error("records were changed")
	}
	clear(recs[0])
	recs[0] = nil
	if got, _ := c.Cell(at(1, 1)); got != x {
		t.Errorf("Cell = %+v", got)
	}
}

func TestPropose(t *testing.T) { // P18.2
	for _, n := range []int{3, 5, 7} {
		for me := range n {
			c := made(t, n, me)
			i, ok := c.Propose(putA())
			if i != at(me, 1) || !ok {
				t.Errorf("Propose = %d, %t", i, ok)
			}
			x := same(zero(), putA(), attr(0))
			var l []api.Letter
			for r := range n {
				if r != me {
					l = append(l, lPre(me, r, i, zero(), putA(), attr(0)))
				}
			}
			drained(t, c, []stand{{i, x}}, l)
			busy(t, c, 1, 0)
			if c.Top() != alone(me, 1) {
				t.Errorf("Top() = %d", c.Top())
			}
			// The next one stands behind it, with what it depends on.
			j, ok := c.Propose(put(2, 2, "a"))
			if x, _ := c.Cell(j); j != at(me, 2) || !ok || x != same(zero(), put(2, 2, "a"), api.Attr{Seq: 1, Deps: alone(me, 1)}) {
				t.Errorf("Propose = %d, %t: %+v", j, ok, x)
			}
			busy(t, c, 2, 0)
		}
	}
}

func TestProposeStandsBehindTop(t *testing.T) { // P18.2
	for _, v := range []struct {
		cut  api.Deps
		l    []stand
		want int
	}{
		{row(9, 4, 9), nil, 5},
		{row(9, 4, 9), []stand{{at(1, 8), promised(ballot(1, 0))}}, 9},
		{row(), []stand{{at(0, 8), promised(ballot(1, 0))}}, 1},
		{row(), []stand{{at(1, 3), committed(zero(), zero(), api.Command{}, attr(0))}, {at(1, 2), promised(ballot(1, 0))}}, 4},
		{row(0, 1<<30-1), nil, 1 << 30},
	} {
		c := madeOf(t, 3, 1, v.cut, v.l...)
		if i, ok := c.Propose(putA()); i != at(1, v.want) || !ok || c.Top()[1] != v.want {
			t.Errorf("%d: Propose = %d, %t, Top() = %d", v.cut, i, ok, c.Top())
		}
	}
	// Another one's letter about its row counts, too.
	c := made(t, 3, 1)
	takes(t, c, lPrepare(2, 1, at(1, 6), ballot(1, 2)))
	if i, ok := c.Propose(putA()); i != at(1, 7) || !ok {
		t.Errorf("Propose = %d, %t", i, ok)
	}
}

// refusedPropose looks whether x is refused, and changes nothing.
func refusedPropose(t *testing.T, what string, c *Core, x api.Command) {
	t.Helper()
	c.Drain()
	leads, wishes := c.Busy()
	top := c.Top()
	if i, ok := c.Propose(x); i != (api.Inst{}) || ok {
		t.Errorf("%s: Propose = %d, %t", what, i, ok)
	}
	quiet(t, c)
	busy(t, c, leads, wishes)
	if c.Top() != top {
		t.Errorf("%s: Top() = %d", what, c.Top())
	}
}

func TestProposeRefuses(t *testing.T) { // P18.2
	for _, x := range []api.Command{
		{}, {Kind: 6, Client: 1, Seq: 1, Key: "a"}, {Kind: -1, Client: 1, Seq: 1, Key: "a"}, {Client: 1}, {Seq: 1}, {Key: "a"},
		put(0, 1, "a"), put(9, 1, "a"), put(1, 0, "a"), put(1, 1<<40+1, "a"), put(1, 1, ""), put(1, 1, strings.Repeat("k", 17)),
		{Kind: api.KGet, Client: 1, Seq: 1, Key: "a", Value: "v"},
	} {
		refusedPropose(t, "a wrong command", made(t, 3, 0), x)
	}
	refusedPropose(t, "no slot behind the cut", madeOf(t, 3, 1, row(0, 1<<30)), putA())
	refusedPropose(t, "no slot behind a cell", madeOf(t, 3, 1, row(), stand{at(1, 1<<30), promised(ballot(1, 0))}), putA())
	most := []stand{{at(2, 1), committed(zero(), zero(), putA(), attr(1<<40))}}
	refusedPropose(t, "no number behind another one", madeOf(t, 3, 0, row(), most...), put(2, 2, "a"))
	if _, ok := madeOf(t, 3, 0, row(), most...).Propose(putB()); !ok {
		t.Error("one that doesn't clash is refused")
	}
	most[0].x.Attr.Seq--
	c := madeOf(t, 3, 0, row(), most...)
	if i, ok := c.Propose(put(2, 2, "a")); !ok {
		t.Error("the last number is refused")
	} else if x, _ := c.Cell(i); x.Attr != attr(1<<40, 0, 0, 1) {
		t.Errorf("the last number: %+v", x)
	}
}

func TestProposeLeadsSoManyAtMost(t *testing.T) { // P18.2
	c := made(t, 3, 0)
	for k := range 256 {
		if i, ok := c.Propose(put(1, k+1, "a")); i != at(0, k+1) || !ok {
			t.Fatalf("Propose = %d, %t", i, ok)
		}
	}
	busy(t, c, 256, 0)
	refusedPropose(t, "256 are led", c, put(1, 257, "a"))
	// One of them gets done: there is room again, for one.
	takes(t, c, lPreOK(1, 0, at(0, 1), zero(), attr(0)))
	busy(t, c, 255, 0)
	if i, ok := c.Propose(put(1, 257, "a")); i != at(0, 257) || !ok {
		t.Errorf("Propose = %d, %t", i, ok)
	}
	refusedPropose(t, "256 are led again", c, put(1, 258, "a"))
}

func TestTrim(t *testing.T) { // P18.7
	c := made(t, 3, 0)
	for k := range 4 {
		c.Propose(put(1, k+1, "a"))
	}
	for slot := 1; slot <= 4; slot++ {
		c.Want(at(1, slot))
		c.Recover(at(2, slot))
	}
	c.Want(at(0, 1))
	c.Drain()
	busy(t, c, 8, 5)
	c.Trim(row(2, 1, 3, 0, 0, 0, 1<<30+1))
	quiet(t, c)
	busy(t, c, 3, 3)
	if c.Cut() != row(2, 1, 3, 0, 0, 0, 1<<30) || c.Top() != row(4, 1, 4, 0, 0, 0, 1<<30) {
		t.Errorf("Cut() = %d, Top() = %d", c.Cut(), c.Top())
	}
	for _, i := range []api.Inst{at(0, 1), at(0, 2), at(2, 1), at(2, 3)} {
		if x, is := c.Cell(i); x != (api.Cell{}) || is {
			t.Errorf("Cell(%d) = %+v", i, x)
		}
	}
	// What is left is led as it was; what is gone isn't.
	for slot := 1; slot <= 4; slot++ {
		takes(t, c, lPreOK(1, 0, at(0, slot), zero(), attr(slot-1, slot-1)))
	}
	drained(t, c, []stand{
		{at(0, 3), committed(zero(), zero(), put(1, 3, "a"), attr(2, 2))},
		{at(0, 4), committed(zero(), zero(), put(1, 4, "a"), attr(3, 3))},
	}, []api.Letter{
		lCommit(0, 1, at(0, 3), put(1, 3, "a"), attr(2, 2)), lCommit(0, 2, at(0, 3), put(1, 3, "a"), attr(2, 2)),
		lCommit(0, 1, at(0, 4), put(1, 4, "a"), attr(3, 3)), lCommit(0, 2, at(0, 4), put(1, 4, "a"), attr(3, 3)),
	})
	busy(t, c, 1, 3)
	// A cut never sinks.
	c.Trim(row(1, -5, 9))
	if c.Cut() != row(2, 1, 9, 0, 0, 0, 1<<30) {
		t.Errorf("Cut() = %d", c.Cut())
	}
	busy(t, c, 0, 3)
}

func TestTrimPrunes(t *testing.T) { // P18.7
	c := madeOf(t, 3, 0, row(), stand{at(1, 3), committed(zero(), zero(), putA(), attr(6))}, stand{at(2, 3), committed(zero(), zero(), putA(), attr(4))})
	c.Trim(row(0, 5, 2))
	i, _ := c.Propose(put(2, 2, "a"))
	if x, _ := c.Cell(i); x.Attr != attr(5, 0, 5, 3) {
		t.Errorf("%+v depends on what is gone", x)
	}
}

func TestTrimLeavesWhatIsToBeKeptAndSent(t *testing.T) { // P18.7
	c := made(t, 3, 0)
	c.Propose(putA())
	c.Trim(row(1))
	recs, send := c.Drain()
	if l := kept(t, recs); !slices.Equal(l, []stand{{at(0, 1), same(zero(), putA(), attr(0))}}) {
		t.Errorf("kept: %+v", l)
	}
	if !slices.Equal(send, []api.Letter{lPre(0, 1, at(0, 1), zero(), putA(), attr(0)), lPre(0, 2, at(0, 1), zero(), putA(), attr(0))}) {
		t.Errorf("sent: %+v", send)
	}
}

func TestDrainAnswersInOrder(t *testing.T) { // P18.7
	c := made(t, 3, 0)
	c.Propose(putA())
	takes(t, c, lPrepare(2, 0, at(1, 2), ballot(1, 2)), lPre(1, 0, at(1, 1), zero(), putB(), attr(0)), lPreOK(1, 0, at(0, 1), zero(), attr(0)))
	drained(t, c, []stand{
		{at(0, 1), same(zero(), putA(), attr(0))},
		{at(1, 2), promised(ballot(1, 2))},
		{at(1, 1), same(zero(), putB(), attr(0))},
		{at(0, 1), committed(zero(), zero(), putA(), attr(0))},
	}, []api.Letter{
		lPre(0, 1, at(0, 1), zero(), putA(), attr(0)), lPre(0, 2, at(0, 1), zero(), putA(), attr(0)),
		lPrepared(0, 2, at(1, 2), ballot(1, 2), promised(ballot(1, 2))),
		lPreOK(0, 1, at(1, 1), zero(), attr(0)),
		lCommit(0, 1, at(0, 1), putA(), attr(0)), lCommit(0, 2, at(0, 1), putA(), attr(0)),
	})
}

func TestAnswersAreNewMemory(t *testing.T) { // R2
	c := made(t, 3, 0)
	c.Propose(putA())
	recs, send := c.Drain()
	want, sent := slices.Clone(recs[0]), slices.Clone(send)
	c.Propose(putB())
	again, more := c.Drain()
	if !slices.Equal(recs[0], want) || !slices.Equal(send, sent) {
		t.Errorf("drained: %x, %+v, altered by what came behind", recs, send)
	}
	for _, b := range [][]byte{recs[0], again[0]} {
		for k := range b[:cap(b)] {
			b[:cap(b)][k] ^= 255
		}
	}
	for _, l := range [][][]byte{recs, again} {
		clear(l[:cap(l)])
	}
	for _, l := range [][]api.Letter{send, more} {
		clear(l[:cap(l)])
	}
	takes(t, c, lPre(1, 0, at(1, 1), zero(), get(3, 1, "c"), attr(0)))
	drained(t, c, []stand{{at(1, 1), same(zero(), get(3, 1, "c"), attr(0))}}, []api.Letter{lPreOK(0, 1, at(1, 1), zero(), attr(0))})
	if x, _ := c.Cell(at(0, 1)); !slices.Equal(log.Record(at(0, 1), x), want) {
		t.Errorf("Cell = %+v", x)
	}
}

// go3 are three cores.
func go3(t *testing.T) []*Core { return []*Core{made(t, 3, 0), made(t, 3, 1), made(t, 3, 2)} }

// carry gives what from has to send to `to`, and nobody else.
func carry(t *testing.T, l []*Core, from, to int) []api.Letter {
	t.Helper()
	_, send := l[from].Drain()
	for _, m := range send {
		if m.To == to {
			takes(t, l[to], m)
		}
	}
	return send
}

func TestRunFast(t *testing.T) { // the first run
	l := go3(t)
	i, ok := l[0].Propose(putA())
	carry(t, l, 0, 1)
	carry(t, l, 1, 0)
	x0, is0 := l[0].Cell(i)
	x1, is1 := l[1].Cell(i)
	if !ok || !is0 || !is1 || x0 != committed(zero(), zero(), putA(), attr(0)) || x1 != same(zero(), putA(), attr(0)) {
		t.Errorf("%+v, %+v", x0, x1)
	}
	if _, is := l[2].Cell(i); is {
		t.Error("2 has a cell")
	}
	_, send := l[0].Drain()
	if !slices.Equal(send, []api.Letter{lCommit(0, 1, i, putA(), attr(0)), lCommit(0, 2, i, putA(), attr(0))}) {
		t.Errorf("sent: %+v", send)
	}
}

func TestRunRecover(t *testing.T) { // the second run
	l := go3(t)
	i, _ := l[0].Propose(putA())
	carry(t, l, 0, 1)
	l[1].Drain()
	if !l[1].Recover(i) {
		t.Error("Recover = false")
	}
	carry(t, l, 1, 2)
	carry(t, l, 2, 1)
	b := ballot(1, 1)
	drained(t, l[1], []stand{{i, accepted(b, b, putA(), attr(0))}}, []api.Letter{lAccept(1, 0, i, b, putA(), attr(0)), lAccept(1, 2, i, b, putA(), attr(0))})
}

func TestRunNothing(t *testing.T) { // the third run
	l := go3(t)
	i := at(0, 5)
	if !l[1].Recover(i) {
		t.Error("Recover = false")
	}
	carry(t, l, 1, 2)
	carry(t, l, 2, 1)
	carry(t, l, 1, 2)
	carry(t, l, 2, 1)
	if x, _ := l[1].Cell(i); x != committed(ballot(1, 1), ballot(1, 1), api.Command{}, attr(0, 4)) {
		t.Errorf("Cell = %+v", x)
	}
}
