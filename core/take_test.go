package core

import (
	"fmt"
	"strings"
	"testing"

	"concord/api"
)

// everyKind is a letter of each Kind ahead of LFront, each of which a core asking of what it leads, or knowing nothing, does something about.
func everyKind(from, to int, i api.Inst, b api.Ballot) []api.Letter {
	return []api.Letter{
		lPre(from, to, i, b, putA(), attr(0)), lPreOK(from, to, i, b, attr(0)),
		lAccept(from, to, i, b, putA(), attr(0)), lAcceptOK(from, to, i, b),
		lCommit(from, to, i, putA(), attr(0)),
		lPrepare(from, to, i, b), lPrepared(from, to, i, b, promised(b)), lNo(from, to, i, ballot(9, 2)),
	}
}

// leading is a core of 3, me 0, that proposes 0 1, has 0 2 accepted, and prepares 1 1; nothing is to be kept or sent.
func leading(t *testing.T) *Core {
	t.Helper()
	c := madeOf(t, 3, 0, row(0, 0, 5))
	c.Propose(putA())
	c.Propose(putB())
	takes(t, c, lPreOK(1, 0, at(0, 2), zero(), attr(1, 1)))
	for range 4 {
		c.Tick()
	}
	if !c.Recover(at(1, 1)) {
		t.Fatal("Recover = false")
	}
	c.Drain()
	busy(t, c, 3, 0)
	return c
}

func TestLeading(t *testing.T) { // what the tests below rest on
	c := leading(t)
	for i, x := range map[api.Inst]api.Cell{
		at(0, 1): same(zero(), putA(), attr(0, 0, 0, 5)),
		at(0, 2): accepted(zero(), zero(), putB(), attr(1, 1, 0, 5)),
		at(1, 1): promised(ballot(1, 0)),
	} {
		if got, is := c.Cell(i); got != x || !is {
			t.Errorf("Cell(%d) = %+v", i, got)
		}
	}
}

// leaves looks whether a letter does nothing to what leading makes.
func leaves(t *testing.T, what string, m api.Letter) {
	t.Helper()
	c := leading(t)
	top := c.Top()
	if c.Take(m) {
		t.Errorf("%s: Take(%+v) = true", what, m)
	}
	quiet(t, c)
	busy(t, c, 3, 0)
	if c.Top() != top {
		t.Errorf("%s: Top() = %d", what, c.Top())
	}
	for i, x := range map[api.Inst]api.Cell{
		at(0, 1): same(zero(), putA(), attr(0, 0, 0, 5)),
		at(0, 2): accepted(zero(), zero(), putB(), attr(1, 1, 0, 5)),
		at(1, 1): promised(ballot(1, 0)),
	} {
		if got, _ := c.Cell(i); got != x {
			t.Errorf("%s: Take(%+v): at %d stands %+v", what, m, i, got)
		}
	}
}

// spoil are changes of a letter behind which it is none of the core's.
func spoil() map[string]func(m *api.Letter) {
	return map[string]func(m *api.Letter){
		"to 1":                func(m *api.Letter) { m.To = 1 },
		"to 2":                func(m *api.Letter) { m.To = 2 },
		"to -1":               func(m *api.Letter) { m.To = -1 },
		"to 7":                func(m *api.Letter) { m.To = 7 },
		"from 0":              func(m *api.Letter) { m.From = 0 },
		"from 3":              func(m *api.Letter) { m.From = 3 },
		"from 6":              func(m *api.Letter) { m.From = 6 },
		"from 7":              func(m *api.Letter) { m.From = 7 },
		"from -1":             func(m *api.Letter) { m.From = -1 },
		"of no Kind":          func(m *api.Letter) { m.Kind = 0 },
		"of Kind 12":          func(m *api.Letter) { m.Kind = 12 },
		"a front":             func(m *api.Letter) { m.Kind = api.LFront },
		"of row 3":            func(m *api.Letter) { m.Inst.Replica = 3 },
		"of row 6":            func(m *api.Letter) { m.Inst.Replica = 6 },
		"of row 7":            func(m *api.Letter) { m.Inst.Replica = 7 },
		"of row -1":           func(m *api.Letter) { m.Inst.Replica = -1 },
		"of slot 0":           func(m *api.Letter) { m.Inst.Slot = 0 },
		"of slot 2^30 + 1":    func(m *api.Letter) { m.Inst.Slot = 1<<30 + 1 },
		"of a wrong Epoch":    func(m *api.Letter) { m.Ballot.Epoch = 1<<30 + 1 },
		"of a wrong ballot":   func(m *api.Letter) { m.Ballot.Replica = 7 },
		"of a wrong command":  func(m *api.Letter) { m.Cmd.Client = 9 },
		"of wrong attributes": func(m *api.Letter) { m.Attr.Seq = -1 },
		"of a wrong cell":     func(m *api.Letter) { m.Cell.Status = 4 },
		"with slots":          func(m *api.Letter) { m.Deps[6] = 1 },
		"with data":           func(m *api.Letter) { m.Data = "x" },
		"of a cell with ballots that sink": func(m *api.Letter) {
			m.Cell = accepted(ballot(1, 0), ballot(1, 1), putA(), attr(0))
		},
	}
}

func TestTakeLeavesWhatIsNotItsOwn(t *testing.T) { // P18.3
	for what, f := range spoil() {
		for _, i := range []api.Inst{at(0, 1), at(0, 2), at(1, 1), at(1, 2)} {
			for _, b := range []api.Ballot{zero(), ballot(1, 0), ballot(3, 1)} {
				for _, m := range everyKind(1, 0, i, b) {
					f(&m)
					leaves(t, what, m)
				}
			}
		}
	}
	for _, m := range []api.Letter{
		{}, {Kind: api.LFront, From: 1, To: 0, Deps: row(1, 1, 9)}, {Kind: api.LDone, From: 1, To: 0, Deps: row(1, 1, 9)}, {Kind: api.LImage, From: 1, To: 0, Data: "image"},
		{Kind: api.LFront, From: 1, To: 0, Inst: at(2, 3)}, {Kind: api.LImage, From: 1, To: 0, Inst: at(0, 1), Data: strings.Repeat("x", 1<<14)},
	} {
		leaves(t, "a node's", m)
	}
}

func TestTakeTellsWhoAsksAboutWhatIsGone(t *testing.T) { // P18.3
	for slot := 1; slot <= 6; slot++ {
		for _, b := range []api.Ballot{zero(), ballot(1, 0), ballot(3, 1)} {
			for _, m := range everyKind(1, 0, at(2, slot), b) {
				c := leading(t)
				asks := m.Kind == api.LPre || m.Kind == api.LAccept || m.Kind == api.LPrepare
				if got := c.Take(m); got != (asks && slot <= 5) {
					t.Errorf("Take(%+v) = %t", m, got)
				}
				if slot <= 5 {
					quiet(t, c)
					busy(t, c, 3, 0)
				}
			}
		}
	}
	// Of a letter that isn't its own nothing is told, though the instance is gone.
	for what, f := range spoil() {
		for _, m := range everyKind(1, 0, at(2, 5), zero()) {
			f(&m)
			leaves(t, what, m)
		}
	}
}

// alters is a letter to replica 0 of 3 that has a cell (none, if it is nil), the cell behind it (nil: it isn't set), and what goes back.
type alters struct {
	what string
	was  *api.Cell
	m    api.Letter
	now  *api.Cell
	back []api.Letter
}

func of(x api.Cell) *api.Cell { return &x }

func (v alters) run(t *testing.T) {
	t.Helper()
	var l, set []stand
	if v.was != nil {
		l = append(l, stand{v.m.Inst, *v.was})
	}
	if v.now != nil {
		set = append(set, stand{v.m.Inst, *v.now})
	}
	c := madeOf(t, 3, 0, row(), l...)
	takes(t, c, v.m)
	drained(t, c, set, v.back)
	busy(t, c, 0, 0)
	if v.now == nil && v.was != nil {
		if x, _ := c.Cell(v.m.Inst); x != *v.was {
			t.Errorf("%s: %+v was altered to %+v", v.what, *v.was, x)
		}
	}
	if t.Failed() {
		t.Fatalf("(%s: %+v of %+v)", v.what, v.m, v.was)
	}
}

func one1() api.Inst { return at(1, 1) }

func TestWhatIsCommittedIsTold(t *testing.T) { // P18.3
	a := attr(4, 2, 0, 7)
	for _, p := range []api.Ballot{zero(), ballot(2, 1)} {
		x := committed(p, zero(), putA(), a)
		back := []api.Letter{lCommit(0, 2, one1(), putA(), a)}
		for _, b := range []api.Ballot{zero(), ballot(1, 2), ballot(2, 0), ballot(2, 1), ballot(2, 2), ballot(9, 2)} {
			alters{"LPre", &x, lPre(2, 0, one1(), b, putB(), attr(1)), nil, back}.run(t)
			alters{"LAccept", &x, lAccept(2, 0, one1(), b, putB(), attr(1)), nil, back}.run(t)
			alters{"LPrepare", &x, lPrepare(2, 0, one1(), b), nil, back}.run(t)
			alters{"LPreOK", &x, lPreOK(2, 0, one1(), b, attr(1)), nil, nil}.run(t)
			alters{"LAcceptOK", &x, lAcceptOK(2, 0, one1(), b), nil, nil}.run(t)
			alters{"LPrepared", &x, lPrepared(2, 0, one1(), b, x), nil, nil}.run(t)
			alters{"LNo", &x, lNo(2, 0, one1(), b), nil, nil}.run(t)
		}
		alters{"LCommit", &x, lCommit(2, 0, one1(), putA(), a), nil, nil}.run(t)
		alters{"LCommit of another one", &x, lCommit(2, 0, one1(), putB(), attr(1)), nil, nil}.run(t)
	}
	nothing := committed(zero(), zero(), api.Command{}, attr(0))
	alters{"what does nothing", &nothing, lPre(2, 0, one1(), zero(), putB(), attr(1)), nil, []api.Letter{lCommit(0, 2, one1(), api.Command{}, attr(0))}}.run(t)
}

func TestWhatIsPromisedIsTold(t *testing.T) { // P18.3
	p := ballot(3, 1)
	for _, x := range []api.Cell{
		promised(p), same(p, putA(), attr(2)), pre(p, zero(), putA(), attr(2)), pre(p, ballot(1, 1), putA(), attr(2)), pre(p, ballot(3, 0), putA(), attr(2)),
		pre(p, p, putA(), attr(2)), accepted(p, ballot(2, 6), putA(), attr(2)), accepted(p, p, putA(), attr(2)), accepted(p, zero(), putA(), attr(2)),
	} {
		back := []api.Letter{lNo(0, 2, one1(), p)}
		for _, b := range []api.Ballot{zero(), ballot(1, 1), ballot(2, 6), ballot(3, 0)} {
			alters{"LPre", &x, lPre(2, 0, one1(), b, putA(), attr(2)), nil, back}.run(t)
			alters{"LAccept", &x, lAccept(2, 0, one1(), b, putA(), attr(2)), nil, back}.run(t)
			alters{"LPrepare", &x, lPrepare(2, 0, one1(), b), nil, back}.run(t)
		}
		for _, b := range []api.Ballot{zero(), ballot(3, 1), ballot(4, 0)} {
			alters{"LPreOK", &x, lPreOK(2, 0, one1(), b, attr(2)), nil, nil}.run(t)
			alters{"LAcceptOK", &x, lAcceptOK(2, 0, one1(), b), nil, nil}.run(t)
			alters{"LPrepared", &x, lPrepared(2, 0, one1(), b, committed(b, zero(), putA(), attr(2))), nil, nil}.run(t)
			alters{"LNo", &x, lNo(2, 0, one1(), b), nil, nil}.run(t)
		}
	}
}

func TestLPre(t *testing.T) { // P18.3
	i, a := one1(), attr(2, 5)
	ok := func(b api.Ballot, a api.Attr) []api.Letter { return []api.Letter{lPreOK(0, 2, i, b, a)} }
	b, up := ballot(3, 1), ballot(3, 2)
	for _, v := range []alters{
		{"nothing known", nil, lPre(2, 0, i, zero(), putA(), a), of(same(zero(), putA(), a)), ok(zero(), a)},
		{"nothing known, a later ballot", nil, lPre(2, 0, i, b, putA(), a), of(pre(b, b, putA(), a)), ok(b, a)},
		{"the zero cell", of(api.Cell{}), lPre(2, 0, i, zero(), putA(), a), of(same(zero(), putA(), a)), ok(zero(), a)},
		{"what does nothing", nil, lPre(2, 0, i, zero(), api.Command{}, a), of(same(zero(), api.Command{}, a)), ok(zero(), a)},
		{"promised", of(promised(b)), lPre(2, 0, i, b, putA(), a), of(pre(b, b, putA(), a)), ok(b, a)},
		{"promised less", of(promised(b)), lPre(2, 0, i, up, putA(), a), of(pre(up, up, putA(), a)), ok(up, a)},
		{"had at the zero ballot", of(same(zero(), putA(), attr(1))), lPre(2, 0, i, zero(), putA(), a), nil, ok(zero(), attr(1))},
		{"had with more", of(pre(zero(), zero(), putA(), attr(9, 9))), lPre(2, 0, i, zero(), putA(), a), nil, ok(zero(), attr(9, 9))},
		{"had at a later ballot", of(pre(b, b, putA(), attr(9, 9))), lPre(2, 0, i, b, putA(), a), nil, ok(b, attr(9, 9))},
		{"another one had", of(pre(b, b, putB(), attr(9))), lPre(2, 0, i, b, putA(), a), nil, ok(b, attr(9))},
		{"had at another ballot", of(pre(b, ballot(3, 0), putA(), attr(9))), lPre(2, 0, i, b, putA(), a), of(pre(b, b, putA(), a)), ok(b, a)},
		{"had as it was, by a later ballot", of(same(b, putA(), a)), lPre(2, 0, i, b, putA(), a), of(pre(b, b, putA(), a)), ok(b, a)},
		{"another one had at another ballot", of(accepted(b, zero(), putB(), attr(9))), lPre(2, 0, i, b, putA(), a), of(pre(b, b, putA(), a)), ok(b, a)},
		{"accepted at it", of(accepted(b, b, putA(), attr(9))), lPre(2, 0, i, b, putA(), a), nil, nil},
		{"accepted at the zero ballot", of(accepted(zero(), zero(), putA(), attr(9))), lPre(2, 0, i, zero(), putA(), a), nil, nil},
		{"accepted below it", of(accepted(b, b, putA(), attr(9))), lPre(2, 0, i, up, putA(), a), of(pre(up, up, putA(), a)), ok(up, a)},
	} {
		t.Run(v.what, v.run)
	}
}

func TestLPreSeesWhatInterferes(t *testing.T) { // P18.3
	most := attr(1<<40, 1, 1)
	for _, v := range []struct {
		what  string
		b     api.Ballot
		cut   api.Deps
		l     []stand
		i     api.Inst
		a     api.Attr
		want  api.Attr
		isSet bool
	}{
		{"what clashes", zero(), row(), []stand{{at(2, 4), pre(zero(), zero(), put(2, 2, "a"), attr(6))}}, at(1, 1), attr(2, 5), attr(7, 5, 0, 4), true},
		{"what clashes, at a ballot", ballot(1, 2), row(), []stand{{at(2, 4), pre(zero(), zero(), put(2, 2, "a"), attr(6))}}, at(1, 1), attr(2, 5), attr(7, 5, 0, 4), true},
		{"what is told by now", zero(), row(), []stand{{at(2, 4), pre(zero(), zero(), put(2, 2, "a"), attr(6))}}, at(1, 1), attr(7, 5, 0, 4), attr(7, 5, 0, 4), true},
		{"a greater number alone", zero(), row(), []stand{{at(2, 4), pre(zero(), zero(), put(2, 2, "a"), attr(6))}}, at(1, 1), attr(6, 5, 0, 4), attr(7, 5, 0, 4), true},
		{"a further slot alone", zero(), row(), []stand{{at(2, 4), pre(zero(), zero(), put(2, 2, "a"), attr(6))}}, at(1, 1), attr(7, 5, 0, 3), attr(7, 5, 0, 4), true},
		{"what doesn't clash", zero(), row(), []stand{{at(2, 4), pre(zero(), zero(), putB(), attr(6))}}, at(1, 1), attr(2, 5), attr(2, 5), true},
		{"itself", ballot(1, 2), row(), []stand{{at(1, 1), pre(zero(), zero(), put(2, 2, "a"), attr(6))}}, at(1, 1), attr(2, 5), attr(2, 5), true},
		{"its own row", zero(), row(), nil, at(1, 4), attr(2, 5), attr(2, 5, 3), true},
		{"the cut", zero(), row(9, 9, 9), nil, at(1, 10), attr(2, 5), attr(2, 9, 9, 9), true},
		{"a number beyond all", zero(), row(), []stand{{at(2, 4), pre(zero(), zero(), put(2, 2, "a"), most)}}, at(1, 1), attr(2, 5), attr(0), false},
		{"the last number", zero(), row(), []stand{{at(2, 4), pre(zero(), zero(), put(2, 2, "a"), attr(1<<40-1))}}, at(1, 1), attr(2, 5), attr(1<<40, 5, 0, 4), true},
		{"the last number told", zero(), row(), nil, at(1, 1), most, most, true},
	} {
		c := madeOf(t, 3, 0, v.cut, v.l...)
		takes(t, c, lPre(2, 0, v.i, v.b, putA(), v.a))
		if !v.isSet {
			quiet(t, c)
			continue
		}
		x := pre(v.b, v.b, putA(), v.want)
		x.Same = v.want == v.a && v.b == zero()
		drained(t, c, []stand{{v.i, x}}, []api.Letter{lPreOK(0, 2, v.i, v.b, v.want)})
		if t.Failed() {
			t.Fatal(v.what)
		}
	}
}

func TestLAccept(t *testing.T) { // P18.3
	i, a := one1(), attr(2, 5)
	b, up := ballot(3, 1), ballot(3, 2)
	ok := func(b api.Ballot) []api.Letter { return []api.Letter{lAcceptOK(0, 2, i, b)} }
	for _, v := range []alters{
		{"nothing known", nil, lAccept(2, 0, i, zero(), putA(), a), of(accepted(zero(), zero(), putA(), a)), ok(zero())},
		{"nothing known, a later ballot", nil, lAccept(2, 0, i, b, putA(), a), of(accepted(b, b, putA(), a)), ok(b)},
		{"what does nothing", nil, lAccept(2, 0, i, b, api.Command{}, attr(0)), of(accepted(b, b, api.Command{}, attr(0))), ok(b)},
		{"promised", of(promised(b)), lAccept(2, 0, i, b, putA(), a), of(accepted(b, b, putA(), a)), ok(b)},
		{"proposed at it", of(pre(b, b, putB(), attr(7))), lAccept(2, 0, i, b, putA(), a), of(accepted(b, b, putA(), a)), ok(b)},
		{"proposed at the zero ballot", of(same(zero(), putA(), attr(7))), lAccept(2, 0, i, zero(), putA(), a), of(accepted(zero(), zero(), putA(), a)), ok(zero())},
		{"proposed below it", of(same(ballot(1, 1), putA(), attr(7))), lAccept(2, 0, i, b, putA(), a), of(accepted(b, b, putA(), a)), ok(b)},
		{"accepted at it", of(accepted(b, b, putA(), a)), lAccept(2, 0, i, b, putA(), a), nil, ok(b)},
		{"another one accepted at it", of(accepted(b, b, putB(), attr(9))), lAccept(2, 0, i, b, putA(), a), nil, ok(b)},
		{"accepted at the zero ballot", of(accepted(zero(), zero(), putA(), a)), lAccept(2, 0, i, zero(), putA(), a), nil, ok(zero())},
		{"accepted below it", of(accepted(b, b, putB(), attr(9))), lAccept(2, 0, i, up, putA(), a), of(accepted(up, up, putA(), a)), ok(up)},
		{"accepted below what is promised", of(accepted(b, zero(), putB(), attr(9))), lAccept(2, 0, i, b, putA(), a), of(accepted(b, b, putA(), a)), ok(b)},
	} {
		t.Run(v.what, v.run)
	}
	// What is accepted is seen by what comes behind it.
	c := madeOf(t, 3, 0, row())
	takes(t, c, lAccept(2, 0, i, zero(), putA(), attr(6)))
	j, _ := c.Propose(put(2, 2, "a"))
	if x, _ := c.Cell(j); x.Attr != attr(7, 0, 1) {
		t.Errorf("%+v", x)
	}
}

func TestLPrepare(t *testing.T) { // P18.3
	i, a := one1(), attr(2, 5)
	b, up := ballot(3, 1), ballot(3, 2)
	for _, v := range []struct {
		was *api.Cell
		b   api.Ballot
		now api.Cell
		set bool
	}{
		{nil, b, promised(b), true},
		{nil, zero(), api.Cell{}, false},
		{of(api.Cell{}), zero(), api.Cell{}, false},
		{of(promised(b)), b, promised(b), false},
		{of(promised(b)), up, promised(up), true},
		{of(promised(b)), ballot(4, 0), promised(ballot(4, 0)), true},
		{of(same(zero(), putA(), a)), zero(), same(zero(), putA(), a), false},
		{of(same(zero(), putA(), a)), b, same(b, putA(), a), true},
		{of(same(b, putA(), a)), b, same(b, putA(), a), false},
		{of(pre(b, zero(), putA(), a)), up, pre(up, zero(), putA(), a), true},
		{of(pre(b, b, putA(), a)), up, pre(up, b, putA(), a), true},
		{of(accepted(b, ballot(2, 2), putA(), a)), up, accepted(up, ballot(2, 2), putA(), a), true},
		{of(accepted(b, b, putA(), a)), b, accepted(b, b, putA(), a), false},
		{of(accepted(zero(), zero(), putA(), a)), ballot(1<<30, 6), accepted(ballot(1<<30, 6), zero(), putA(), a), true},
	} {
		var now *api.Cell
		if v.set {
			now = &v.now
		}
		alters{"LPrepare", v.was, lPrepare(2, 0, i, v.b), now, []api.Letter{lPrepared(0, 2, i, v.b, v.now)}}.run(t)
	}
}

func TestLCommit(t *testing.T) { // P18.3
	i, a := one1(), attr(2, 5)
	b := ballot(3, 1)
	for _, v := range []alters{
		{"nothing known", nil, lCommit(2, 0, i, putA(), a), of(committed(zero(), zero(), putA(), a)), nil},
		{"what does nothing", nil, lCommit(2, 0, i, api.Command{}, a), of(committed(zero(), zero(), api.Command{}, a)), nil},
		{"promised", of(promised(b)), lCommit(2, 0, i, putA(), a), of(committed(b, zero(), putA(), a)), nil},
		{"had as it was", of(same(b, putA(), a)), lCommit(2, 0, i, putA(), a), of(committed(b, zero(), putA(), a)), nil},
		{"another one had", of(pre(b, ballot(1, 1), putB(), attr(9))), lCommit(2, 0, i, putA(), a), of(committed(b, ballot(1, 1), putA(), a)), nil},
		{"accepted", of(accepted(b, b, putB(), attr(9))), lCommit(2, 0, i, putA(), a), of(committed(b, b, putA(), a)), nil},
	} {
		t.Run(v.what, v.run)
	}
	// What is committed is seen by what comes behind it.
	c := madeOf(t, 3, 0, row())
	takes(t, c, lCommit(2, 0, i, putA(), attr(6)))
	j, _ := c.Propose(put(2, 2, "a"))
	if x, _ := c.Cell(j); x.Attr != attr(7, 0, 1) {
		t.Errorf("%+v", x)
	}
}

func TestLCommitEndsWhatIsLed(t *testing.T) { // P18.3
	for k, i := range []api.Inst{at(0, 1), at(0, 2), at(1, 1)} {
		c := leading(t)
		was, _ := c.Cell(i)
		takes(t, c, lCommit(2, 0, i, put(7, 7, "z"), attr(3)))
		drained(t, c, []stand{{i, committed(was.Promised, was.Voted, put(7, 7, "z"), attr(3))}}, nil)
		busy(t, c, 2, 0)
		for _, m := range everyKind(1, 0, i, ballot(k/2, 0)) {
			if m.Kind == api.LPreOK || m.Kind == api.LAcceptOK || m.Kind == api.LPrepared || m.Kind == api.LNo {
				takes(t, c, m)
			}
		}
		quiet(t, c)
	}
}

func TestWhoAsksAtAGreaterBallotLeads(t *testing.T) { // P18.3
	leads := map[api.Inst]api.Ballot{at(0, 1): zero(), at(0, 2): zero(), at(1, 1): ballot(1, 0)}
	for i, led := range leads {
		for _, b := range []api.Ballot{zero(), ballot(0, 1), ballot(1, 0), ballot(1, 1), ballot(2, 0)} {
			below := b == zero() && led != zero() || b == ballot(0, 1) && led != zero()
			for _, m := range everyKind(1, 0, i, b) {
				if m.Kind != api.LPre && m.Kind != api.LAccept && m.Kind != api.LPrepare {
					continue
				}
				c := leading(t)
				takes(t, c, m)
				left := 3
				if b != led && !below {
					left = 2
				}
				busy(t, c, left, 0)
				if t.Failed() {
					t.Fatalf("%+v", m)
				}
			}
		}
	}
}

func TestWhoAsksLeadsThoughItsProposalIsNotTaken(t *testing.T) { // P18.3
	c := madeOf(t, 3, 0, row(), stand{at(2, 1), committed(zero(), zero(), putA(), attr(1<<40))})
	i, ok := c.Propose(putB())
	if !ok {
		t.Fatal("Propose = false")
	}
	c.Drain()
	takes(t, c, lPre(1, 0, i, ballot(1, 1), put(3, 3, "a"), attr(0)))
	quiet(t, c)
	busy(t, c, 0, 0)
	if x, _ := c.Cell(i); x != same(zero(), putB(), attr(0)) {
		t.Errorf("Cell = %+v", x)
	}
}

// step gives a core letters, and looks what it keeps and sends behind the last of them alone.
func step(t *testing.T, c *Core, early []api.Letter, last api.Letter, cells []stand, letters []api.Letter) {
	t.Helper()
	takes(t, c, early...)
	quiet(t, c)
	takes(t, c, last)
	drained(t, c, cells, letters)
}

// all is a letter to each other replica of n.
func all(n int, m api.Letter) []api.Letter {
	var l []api.Letter
	for m.To = range n {
		if m.To != m.From {
			l = append(l, m)
		}
	}
	return l
}

// proposing is a core of n, me 1, that proposes putA at 1 1 with nothing ahead.
func proposing(t *testing.T, n int) *Core {
	t.Helper()
	c := made(t, n, 1)
	if i, ok := c.Propose(putA()); !ok || i != one1() {
		t.Fatal("Propose = false")
	}
	c.Drain()
	return c
}

// replies are LPreOKs of replicas, with these attributes.
func replies(a api.Attr, from ...int) []api.Letter {
	var l []api.Letter
	for _, r := range from {
		l = append(l, lPreOK(r, 1, one1(), zero(), a))
	}
	return l
}

func TestLPreOKCommitsFast(t *testing.T) { // P18.3
	i, a := one1(), attr(0)
	for n, from := range map[int][]int{3: {2}, 5: {4, 0, 2}, 7: {6, 5, 0, 2, 3}} {
		l := replies(a, from...)
		c := proposing(t, n)
		step(t, c, l[:len(l)-1], l[len(l)-1], []stand{{i, committed(zero(), zero(), putA(), a)}}, all(n, lCommit(1, 0, i, putA(), a)))
		busy(t, c, 0, 0)
		// One that saw more changes nothing, if it is one alone.
		c = proposing(t, n)
		if n > 3 {
			l = append(replies(attr(2, 3), 3), replies(a, []int{0, 2, 4, 5, 6}[:n-2]...)...)
			step(t, c, l[:len(l)-1], l[len(l)-1], []stand{{i, committed(zero(), zero(), putA(), a)}}, all(n, lCommit(1, 0, i, putA(), a)))
		} else {
			l = append(replies(attr(2, 3), 0), replies(a, 2)...)
			step(t, c, l[:1], l[1], []stand{{i, committed(zero(), zero(), putA(), a)}}, all(n, lCommit(1, 0, i, putA(), a)))
		}
	}
}

func TestLPreOKComesToAccept(t *testing.T) { // P18.3
	i := one1()
	for _, v := range []struct {
		n    int
		l    []api.Letter
		want api.Attr
	}{
		{3, append(replies(attr(2, 0, 0, 4), 0), replies(attr(1, 6), 2)...), attr(2, 6, 0, 4)},
		{5, append(replies(attr(2, 0, 0, 4), 0), replies(attr(1, 6), 2)...), attr(2, 6, 0, 4)},
		{5, append(append(replies(attr(2, 0, 0, 4), 0), replies(attr(0), 4)...), replies(attr(1, 6), 2)...), attr(2, 6, 0, 4)},
		{7, append(replies(attr(2, 0, 0, 4), 0, 4), replies(attr(0), 2)...), attr(2, 0, 0, 4)},
		{7, append(append(replies(attr(2, 0, 0, 4), 0), replies(attr(0), 2, 5)...), replies(attr(0, 9), 6)...), attr(2, 9, 0, 4)},
	} {
		c := proposing(t, v.n)
		last := len(v.l) - 1
		step(t, c, v.l[:last], v.l[last], []stand{{i, accepted(zero(), zero(), putA(), v.want)}}, all(v.n, lAccept(1, 0, i, zero(), putA(), v.want)))
		busy(t, c, 1, 0)
		// A proposal's late reply is none to this.
		takes(t, c, lPreOK(v.n-1, 1, i, zero(), attr(9)))
		quiet(t, c)
	}
}

// deaf looks whether letters change nothing of a core that leads one instance, and whether it hears the last one.
func deaf(t *testing.T, c *Core, l []api.Letter, last api.Letter) {
	t.Helper()
	for _, m := range l {
		takes(t, c, m)
		if recs, send := c.Drain(); len(recs) != 0 || len(send) != 0 {
			t.Fatalf("%+v is heard: %+v, %+v", m, kept(t, recs), send)
		}
		busy(t, c, 1, 0)
	}
	takes(t, c, last)
	if recs, _ := c.Drain(); len(recs) != 1 {
		t.Errorf("%+v isn't heard", last)
	}
}

func TestAnswersAreHeardOnceAndAtTheirBallot(t *testing.T) { // P18.3
	i := one1()
	// A proposal of five: three others must say the same.
	l := []api.Letter{
		lPreOK(0, 1, i, ballot(1, 1), attr(0)), lPreOK(2, 1, i, ballot(0, 1), attr(0)), lPreOK(3, 1, at(1, 2), zero(), attr(0)), lPreOK(4, 1, at(0, 1), zero(), attr(0)),
		lAcceptOK(0, 1, i, zero()), lAcceptOK(2, 1, i, zero()), lAcceptOK(3, 1, i, zero()), lAcceptOK(4, 1, i, zero()),
		lPrepared(0, 1, i, zero(), committed(zero(), zero(), putA(), attr(0))), lPrepared(2, 1, i, zero(), promised(zero())), lPrepared(3, 1, i, zero(), promised(zero())),
		lPreOK(0, 1, i, zero(), attr(0)), lPreOK(0, 1, i, zero(), attr(0)), lPreOK(0, 1, i, zero(), attr(5)),
		lPreOK(2, 1, i, zero(), attr(0)), lPreOK(2, 1, i, zero(), attr(0)), lPreOK(0, 1, i, zero(), attr(0)),
	}
	deaf(t, proposing(t, 5), l, lPreOK(4, 1, i, zero(), attr(0)))
	// For acceptance at five: two others must say so.
	c := proposing(t, 5)
	takes(t, c, lPreOK(0, 1, i, zero(), attr(2)), lPreOK(2, 1, i, zero(), attr(3)))
	c.Drain()
	l = []api.Letter{
		lAcceptOK(0, 1, i, ballot(1, 1)), lAcceptOK(2, 1, i, ballot(0, 1)), lAcceptOK(2, 1, at(1, 2), zero()), lAcceptOK(3, 1, at(0, 1), zero()),
		lPreOK(0, 1, i, zero(), attr(0)), lPreOK(2, 1, i, zero(), attr(0)), lPreOK(3, 1, i, zero(), attr(0)), lPreOK(4, 1, i, zero(), attr(0)),
		lPrepared(0, 1, i, zero(), committed(zero(), zero(), putA(), attr(0))), lPrepared(2, 1, i, zero(), promised(zero())), lPrepared(3, 1, i, zero(), promised(zero())),
		lAcceptOK(4, 1, i, zero()), lAcceptOK(4, 1, i, zero()), lAcceptOK(4, 1, i, zero()),
	}
	deaf(t, c, l, lAcceptOK(0, 1, i, zero()))
	// A Prepare of five: two others must say something.
	c = made(t, 5, 1)
	c.Recover(at(3, 7))
	c.Drain()
	i, b := at(3, 7), ballot(1, 1)
	l = []api.Letter{
		lPrepared(0, 1, i, zero(), promised(b)), lPrepared(2, 1, i, ballot(2, 1), promised(b)), lPrepared(2, 1, at(3, 6), b, promised(b)), lPrepared(4, 1, i, ballot(1, 0), promised(b)),
		lPreOK(0, 1, i, b, attr(0)), lPreOK(2, 1, i, b, attr(0)), lPreOK(3, 1, i, b, attr(0)), lPreOK(4, 1, i, b, attr(0)),
		lAcceptOK(0, 1, i, b), lAcceptOK(2, 1, i, b), lAcceptOK(3, 1, i, b), lAcceptOK(4, 1, i, b),
		lPrepared(4, 1, i, b, promised(b)), lPrepared(4, 1, i, b, committed(b, zero(), putA(), attr(0))),
	}
	deaf(t, c, l, lPrepared(0, 1, i, b, promised(b)))
}

func TestLAcceptOKCommits(t *testing.T) { // P18.3
	i := one1()
	for n, from := range map[int][]int{3: {2}, 5: {4, 0}, 7: {6, 0, 3}} {
		c := proposing(t, n)
		takes(t, c, replies(attr(2, 5), 0)...)
		takes(t, c, replies(attr(3, 0, 0, 1), []int{2, 4, 5}[:n/2]...)...)
		c.Drain()
		a := attr(3, 5, 0, 1)
		if x, _ := c.Cell(i); x != accepted(zero(), zero(), putA(), a) {
			t.Fatalf("%d: %+v", n, x)
		}
		var l []api.Letter
		for _, r := range from {
			l = append(l, lAcceptOK(r, 1, i, zero()))
		}
		last := len(l) - 1
		step(t, c, l[:last], l[last], []stand{{i, committed(zero(), zero(), putA(), a)}}, all(n, lCommit(1, 0, i, putA(), a)))
		busy(t, c, 0, 0)
	}
}

// prepares is what replicas say to core 1's Prepare of 3 7 (its own cell ahead of that), and what must come of it.
type prepares struct {
	what    string
	n       int
	own     *api.Cell
	said    []api.Letter
	cell    *api.Cell
	letters []api.Letter
}

func i37() api.Inst { return at(3, 7) }

func (v prepares) run(t *testing.T) {
	var l []stand
	if v.own != nil {
		l = append(l, stand{i37(), *v.own})
	}
	c := madeOf(t, v.n, 1, row(), append(l, stand{at(0, 2), pre(zero(), zero(), put(4, 4, "a"), attr(6))})...)
	if !c.Recover(i37()) {
		t.Fatal("Recover = false")
	}
	c.Drain()
	last := len(v.said) - 1
	step(t, c, v.said[:last], v.said[last], []stand{{i37(), *v.cell}}, v.letters)
}

func TestLPrepared(t *testing.T) { // P18.3
	b := ballot(2, 1) // it was promised 1 5 ahead
	says := func(r int, x api.Cell) api.Letter { return lPrepared(r, 1, i37(), b, x) }
	nothing := api.Command{}
	a, other := attr(2, 0, 0, 0, 6), attr(3, 1, 0, 0, 6)
	old := promised(ballot(1, 5))
	accept := func(n int, x api.Command, a api.Attr) []api.Letter { return all(n, lAccept(1, 0, i37(), b, x, a)) }
	for _, v := range []prepares{
		{"nobody knows", 5, &old, []api.Letter{says(0, promised(b)), says(3, promised(b))}, of(accepted(b, b, nothing, attr(0, 0, 0, 0, 6))), accept(5, nothing, attr(0, 0, 0, 0, 6))},
		{"nobody of seven knows", 7, &old, []api.Letter{says(6, promised(b)), says(0, promised(b)), says(3, promised(b))}, of(accepted(b, b, nothing, attr(0, 0, 0, 0, 6))), accept(7, nothing, attr(0, 0, 0, 0, 6))},
		{"committed", 5, &old, []api.Letter{says(0, committed(b, zero(), putA(), a)), says(3, accepted(b, zero(), putB(), other))}, of(committed(b, zero(), putA(), a)), all(5, lCommit(1, 0, i37(), putA(), a))},
		{"committed, where another one was accepted", 5, of(accepted(ballot(1, 5), ballot(1, 0), putB(), other)), []api.Letter{says(0, promised(b)), says(4, committed(b, zero(), putA(), a))}, of(committed(b, ballot(1, 0), putA(), a)), all(5, lCommit(1, 0, i37(), putA(), a))},
		{"committed, where it was the same", 5, of(same(ballot(1, 5), putA(), a)), []api.Letter{says(0, promised(b)), says(4, committed(b, zero(), putA(), a))}, of(committed(b, zero(), putA(), a)), all(5, lCommit(1, 0, i37(), putA(), a))},
		{"accepted", 5, &old, []api.Letter{says(0, accepted(b, ballot(1, 0), putA(), a)), says(4, same(b, putB(), other))}, of(accepted(b, b, putA(), a)), accept(5, putA(), a)},
		{"accepted here", 5, of(accepted(ballot(1, 5), zero(), putA(), a)), []api.Letter{says(0, promised(b)), says(4, same(b, putB(), other))}, of(accepted(b, b, putA(), a)), accept(5, putA(), a)},
		{"accepted at a greater ballot", 5, of(accepted(ballot(1, 5), ballot(1, 0), putA(), a)), []api.Letter{says(0, promised(b)), says(4, accepted(b, ballot(1, 2), putB(), other))}, of(accepted(b, b, putB(), other)), accept(5, putB(), other)},
		{"accepted at the same ballot: mine first", 5, of(accepted(ballot(1, 5), ballot(1, 0), putA(), a)), []api.Letter{says(0, accepted(b, ballot(1, 0), putB(), other)), says(4, promised(b))}, of(accepted(b, b, putA(), a)), accept(5, putA(), a)},
		{"accepted at the same ballot: who came first", 5, &old, []api.Letter{says(4, accepted(b, ballot(1, 0), putB(), other)), says(0, accepted(b, ballot(1, 0), putA(), a))}, of(accepted(b, b, putB(), other)), accept(5, putB(), other)},
		{"by a fast quorum, perhaps", 5, of(same(ballot(1, 5), putA(), a)), []api.Letter{says(0, same(b, putA(), a)), says(4, promised(b))}, of(accepted(b, b, putA(), a)), accept(5, putA(), a)},
		{"by a fast quorum without me, perhaps", 5, &old, []api.Letter{says(0, same(b, putA(), a)), says(4, same(b, putA(), a))}, of(accepted(b, b, putA(), a)), accept(5, putA(), a)},
		{"not the same often enough", 5, of(same(ballot(1, 5), putA(), a)), []api.Letter{says(0, promised(b)), says(4, promised(b))}, of(pre(b, b, putA(), attr(7, 2, 0, 0, 6))), all(5, lPre(1, 0, i37(), b, putA(), attr(7, 2, 0, 0, 6)))},
		{"the owner says it", 5, of(same(ballot(1, 5), putA(), a)), []api.Letter{says(0, same(b, putA(), a)), says(3, same(b, putA(), a))}, of(pre(b, b, putA(), attr(7, 2, 0, 0, 6))), all(5, lPre(1, 0, i37(), b, putA(), attr(7, 2, 0, 0, 6)))},
		{"with more told than known", 5, &old, []api.Letter{says(0, promised(b)), says(3, same(b, putA(), attr(9, 5, 4)))}, of(pre(b, b, putA(), attr(9, 5, 4, 0, 6))), all(5, lPre(1, 0, i37(), b, putA(), attr(9, 5, 4, 0, 6)))},
		{"what doesn't clash with what is known", 5, &old, []api.Letter{says(0, promised(b)), says(3, same(b, putB(), a))}, of(pre(b, b, putB(), a)), all(5, lPre(1, 0, i37(), b, putB(), a))},
		{"proposed at a greater ballot", 5, of(same(ballot(1, 5), putA(), a)), []api.Letter{says(3, promised(b)), says(4, pre(b, ballot(1, 1), putB(), other))}, of(pre(b, b, putB(), other)), all(5, lPre(1, 0, i37(), b, putB(), other))},
		{"proposed that nothing is done", 5, &old, []api.Letter{says(3, promised(b)), says(4, pre(b, ballot(1, 1), nothing, other))}, of(pre(b, b, nothing, other)), all(5, lPre(1, 0, i37(), b, nothing, other))},
	} {
		t.Run(v.what, v.run)
	}
}

func TestLPreparedOfThree(t *testing.T) { // P18.3
	c := made(t, 3, 1)
	c.Recover(at(0, 5))
	c.Drain()
	b, i := ballot(1, 1), at(0, 5)
	step(t, c, nil, lPrepared(2, 1, i, b, same(b, putA(), attr(1, 4))), []stand{{i, accepted(b, b, putA(), attr(1, 4))}}, all(3, lAccept(1, 0, i, b, putA(), attr(1, 4))))
	busy(t, c, 1, 0)
	step(t, c, nil, lAcceptOK(0, 1, i, b), []stand{{i, committed(b, b, putA(), attr(1, 4))}}, all(3, lCommit(1, 0, i, putA(), attr(1, 4))))
	busy(t, c, 0, 0)
}

func TestWhatIsProposedAgainHasNoFastPath(t *testing.T) { // P18.3
	c := made(t, 5, 1)
	i, b := at(3, 7), ballot(1, 1)
	c.Recover(i)
	a := attr(2, 0, 0, 0, 6)
	takes(t, c, lPrepared(3, 1, i, b, same(b, putA(), a)), lPrepared(0, 1, i, b, promised(b)))
	c.Drain()
	busy(t, c, 1, 0)
	joined := attr(4, 0, 0, 0, 6, 3)
	// The answers to the Prepare aren't any to this: the same ones answer again.
	step(t, c, []api.Letter{lPreOK(0, 1, i, b, a)}, lPreOK(3, 1, i, b, attr(4, 0, 0, 0, 5, 3)), []stand{{i, accepted(b, b, putA(), joined)}}, all(5, lAccept(1, 0, i, b, putA(), joined)))
	step(t, c, []api.Letter{lAcceptOK(3, 1, i, b)}, lAcceptOK(0, 1, i, b), []stand{{i, committed(b, b, putA(), joined)}}, all(5, lCommit(1, 0, i, putA(), joined)))
	// Nor has its own owner's, recovered by itself.
	c = madeOf(t, 5, 1, row(), stand{at(1, 4), same(zero(), putA(), attr(0, 0, 3))})
	i = at(1, 4)
	c.Recover(i)
	takes(t, c, lPrepared(3, 1, i, b, promised(b)), lPrepared(0, 1, i, b, promised(b)))
	c.Drain()
	a = attr(0, 0, 3)
	step(t, c, []api.Letter{lPreOK(0, 1, i, b, a)}, lPreOK(3, 1, i, b, a), []stand{{i, accepted(b, b, putA(), a)}}, all(5, lAccept(1, 0, i, b, putA(), a)))
}

func TestWhatCanNotBeProposedAgainIsNotLed(t *testing.T) { // P18.3
	i, b := at(3, 7), ballot(1, 1)
	// Its number would be beyond all.
	c := madeOf(t, 5, 1, row(), stand{at(0, 2), committed(zero(), zero(), put(4, 4, "a"), attr(1<<40))})
	c.Recover(i)
	c.Drain()
	step(t, c, []api.Letter{lPrepared(3, 1, i, b, same(b, putA(), attr(0)))}, lPrepared(0, 1, i, b, promised(b)), nil, nil)
	busy(t, c, 0, 0)
	if x, _ := c.Cell(i); x != promised(b) {
		t.Errorf("Cell = %+v", x)
	}
	// At its ballot something stands accepted, which no core of its own sent.
	c = made(t, 5, 1)
	c.Recover(i)
	takes(t, c, lAccept(2, 1, i, b, putB(), attr(5)))
	c.Drain()
	busy(t, c, 1, 0)
	step(t, c, []api.Letter{lPrepared(3, 1, i, b, same(b, putA(), attr(0)))}, lPrepared(0, 1, i, b, promised(b)), nil, nil)
	busy(t, c, 0, 0)
	if x, _ := c.Cell(i); x != accepted(b, b, putB(), attr(5)) {
		t.Errorf("Cell = %+v", x)
	}
}

func TestMyOwnCellIsSaidAsItWas(t *testing.T) { // P18.3, P18.4
	i, b := at(3, 7), ballot(1, 1)
	c := made(t, 5, 1)
	c.Recover(i)
	takes(t, c, lPre(2, 1, i, b, putB(), attr(5))) // which no core of its own sent
	c.Drain()
	nothing := attr(0, 0, 0, 0, 6)
	step(t, c, []api.Letter{lPrepared(3, 1, i, b, promised(b))}, lPrepared(0, 1, i, b, promised(b)),
		[]stand{{i, accepted(b, b, api.Command{}, nothing)}}, all(5, lAccept(1, 0, i, b, api.Command{}, nothing)))
}

func TestLNo(t *testing.T) { // P18.3
	leads := map[api.Inst]api.Ballot{at(0, 1): zero(), at(0, 2): zero(), at(1, 1): ballot(1, 0)}
	for i, led := range leads {
		for _, b := range []api.Ballot{zero(), ballot(0, 1), ballot(1, 0), ballot(1, 1), ballot(2, 0), ballot(1<<30, 6)} {
			c := leading(t)
			was, _ := c.Cell(i)
			takes(t, c, lNo(2, 0, i, b))
			quiet(t, c)
			above := b.Epoch > led.Epoch || b.Epoch == led.Epoch && b.Replica > led.Replica
			if above {
				busy(t, c, 2, 1)
			} else {
				busy(t, c, 3, 0)
			}
			if x, _ := c.Cell(i); x != was {
				t.Errorf("Cell(%d) = %+v", i, x)
			}
			// What it was told is what it goes on from.
			if above && b.Epoch < 1<<30 {
				if !c.Recover(i) {
					t.Error("Recover = false")
				}
				if x, _ := c.Cell(i); x.Promised != ballot(b.Epoch+1, 0) {
					t.Errorf("told %d: %+v", b, x)
				}
			} else if above && c.Recover(i) {
				t.Error("Recover behind the last ballot")
			}
			if t.Failed() {
				t.Fatalf("LNo %d of %d", b, i)
			}
		}
	}
	c := leading(t)
	takes(t, c, lNo(2, 0, at(1, 2), ballot(5, 5)), lNo(2, 0, at(0, 3), ballot(5, 5)))
	quiet(t, c)
	busy(t, c, 3, 0)
}

func TestLNoTellsTheGreatest(t *testing.T) { // P18.3
	c := made(t, 3, 0)
	i := at(1, 1)
	for k, v := range []struct{ told, next api.Ballot }{
		{ballot(4, 2), ballot(5, 0)},
		{ballot(6, 1), ballot(7, 0)},
	} {
		if k == 0 {
			c.Recover(i)
		}
		takes(t, c, lNo(2, 0, i, v.told))
		busy(t, c, 0, 1)
		if !c.Recover(i) {
			t.Fatal("Recover = false")
		}
		if x, _ := c.Cell(i); x != promised(v.next) {
			t.Errorf("%+v", x)
		}
		busy(t, c, 1, 1)
	}
	// The wish stays told 6 1, though a core made anew of the cell goes on from what that has.
	c = madeOf(t, 3, 0, row(), stand{i, promised(ballot(2, 1))})
	c.Recover(i) // at 3 0
	takes(t, c, lNo(2, 0, i, ballot(9, 1)), lPrepare(2, 0, i, ballot(4, 2)), lNo(2, 0, i, ballot(12, 1)))
	c.Recover(i)
	if x, _ := c.Cell(i); x != promised(ballot(10, 0)) {
		t.Errorf("%+v", x)
	}
}

func TestLNoWithoutRoomForAWish(t *testing.T) { // P18.3
	c := made(t, 3, 0)
	for slot := 1; slot <= 256; slot++ {
		if !c.Want(at(1, slot)) {
			t.Fatal("Want = false")
		}
	}
	c.Propose(putA())
	c.Recover(at(1, 256))
	c.Drain()
	takes(t, c, lNo(2, 0, at(0, 1), ballot(3, 1)))
	busy(t, c, 1, 256)
	takes(t, c, lNo(2, 0, at(1, 256), ballot(3, 1)))
	busy(t, c, 0, 256)
	quiet(t, c)
	// One that was wished for by now has been told, the other one not.
	c.Recover(at(0, 1))
	c.Recover(at(1, 256))
	x, _ := c.Cell(at(0, 1))
	y, _ := c.Cell(at(1, 256))
	if x.Promised != ballot(1, 0) || y.Promised != ballot(4, 0) {
		t.Errorf("%+v, %+v", x, y)
	}
}

func TestAnswersGoBackToWhoAsks(t *testing.T) { // P18.3
	for _, n := range []int{3, 5, 7} {
		for me := range n {
			for from := range n {
				if from == me {
					continue
				}
				for owner := range n {
					i, b := at(owner, 1), ballot(1, 4)
					c := made(t, n, me)
					takes(t, c, lPre(from, me, i, b, putA(), attr(0)), lAccept(from, me, i, b, putA(), attr(0)), lPrepare(from, me, i, zero()), lPrepare(from, me, i, ballot(2, from)), lCommit(from, me, i, putA(), attr(0)), lPre(from, me, i, b, putA(), attr(0)))
					_, send := c.Drain()
					got := ""
					for _, m := range send {
						if m.From != me || m.To != from || m.Inst != i {
							t.Errorf("sent: %+v", m)
						}
						got += fmt.Sprint(m.Kind, " ")
					}
					if got != "2 4 8 7 5 " {
						t.Errorf("Kinds %s are sent", got)
					}
				}
			}
		}
	}
}
