package core

import (
	"slices"
	"testing"

	"concord/api"
	"concord/cmd"
	"concord/deps"
	"concord/inst"
	"concord/interf"
	"concord/letter"
	"concord/log"
	"concord/quorum"
)

// doing is something that a model leads, by the chapter's words.
type doing struct {
	i     api.Inst
	does  string // proposes, accepts, prepares
	own   bool   // by its own Propose
	b     api.Ballot
	x     api.Command
	a     api.Attr
	cell  api.Cell // its own, said to its Prepare
	who   []int
	attrs []api.Attr
	cells []api.Cell
	ticks int
}

// hopes is something that a model wishes for.
type hopes struct {
	i     api.Inst
	told  api.Ballot
	ticks int
}

// model is a core by the chapter's words, sentence by sentence: lists in whatever order, gone through by rising instances.
type model struct {
	n, me int
	log   *log.Log
	index *interf.Index
	led   []*doing
	hopes []*hopes
	keep  [][]byte
	send  []api.Letter
	seen  map[string]int
}

func modelOf(n, me int, cut api.Deps, recs [][]byte) *model {
	m := &model{n: n, me: me, log: log.New(cut), index: interf.New(), seen: map[string]int{}}
	m.index.Prune(cut)
	for _, b := range recs {
		if i, x, why := log.Replay(b); why == api.OK && m.log.Set(i, x) && x.Status != api.Unknown {
			m.index.Note(i, x.Cmd, x.Attr.Seq)
		}
	}
	return m
}

func (m *model) set(i api.Inst, x api.Cell) bool {
	if !m.log.Set(i, x) {
		return false
	}
	m.keep = append(m.keep, log.Record(i, x))
	if x.Status != api.Unknown {
		m.index.Note(i, x.Cmd, x.Attr.Seq)
	}
	return true
}

func (m *model) toAll(l api.Letter, but []int) {
	l.From = m.me
	for l.To = range m.n {
		if l.To != m.me && !slices.Contains(but, l.To) {
			m.send = append(m.send, l)
		}
	}
}

func (m *model) leads(i api.Inst) *doing {
	for _, d := range m.led {
		if d.i == i {
			return d
		}
	}
	return nil
}

func (m *model) drop(i api.Inst) {
	m.led = slices.DeleteFunc(m.led, func(d *doing) bool { return d.i == i })
}

func (m *model) lead(d doing) {
	m.drop(d.i)
	m.led = append(m.led, &d)
	m.ask(&d)
}

// ask sends what d asks to all that haven't answered.
func (m *model) ask(d *doing) {
	switch d.does {
	case "proposes":
		m.toAll(api.Letter{Kind: api.LPre, Inst: d.i, Ballot: d.b, Cmd: d.x, Attr: d.a}, d.who)
	case "accepts":
		m.toAll(api.Letter{Kind: api.LAccept, Inst: d.i, Ballot: d.b, Cmd: d.x, Attr: d.a}, d.who)
	case "prepares":
		m.toAll(api.Letter{Kind: api.LPrepare, Inst: d.i, Ballot: d.b}, d.who)
	}
}

func (m *model) wish(i api.Inst) *hopes {
	for _, h := range m.hopes {
		if h.i == i {
			return h
		}
	}
	return nil
}

func (m *model) isCommitted(i api.Inst) bool {
	x, _ := m.log.Cell(i)
	return x.Status == api.Committed
}

func (m *model) propose(x api.Command) (api.Inst, bool) {
	slot := m.log.Top()[m.me] + 1
	if !cmd.Right(x) || x == (api.Command{}) || slot > api.MaxSlot || len(m.led) >= 256 {
		return api.Inst{}, false
	}
	i := at(m.me, slot)
	a := m.index.Attr(i, x)
	if !deps.Right(a) {
		m.seen["propose: not right"]++
		return api.Inst{}, false
	}
	m.set(i, api.Cell{Status: api.Preaccepted, Cmd: x, Attr: a, Same: true})
	m.lead(doing{i: i, does: "proposes", own: true, x: x, a: a})
	return i, true
}

func (m *model) take(l api.Letter) bool {
	if !letter.Right(l) || l.To != m.me || l.From >= m.n || l.Kind >= api.LFront || l.Inst.Replica >= m.n {
		return false
	}
	asks := l.Kind == api.LPre || l.Kind == api.LAccept || l.Kind == api.LPrepare
	if m.log.Gone(l.Inst) {
		m.seen["gone"]++
		return asks
	}
	x, _ := m.log.Cell(l.Inst)
	if asks {
		m.asked(l, x)
		return false
	}
	d := m.leads(l.Inst)
	switch l.Kind {
	case api.LCommit:
		if x.Status != api.Committed {
			m.drop(l.Inst)
			m.set(l.Inst, committed(x.Promised, x.Voted, l.Cmd, l.Attr))
		}
	case api.LNo:
		if d != nil && inst.Below(d.b, l.Ballot) {
			m.seen["no"]++
			m.drop(l.Inst)
			m.want(l.Inst)
			if h := m.wish(l.Inst); h != nil {
				h.ticks = 0
				if inst.Below(h.told, l.Ballot) {
					h.told = l.Ballot
				}
			}
		}
	default:
		m.answered(d, l)
	}
	return false
}

func (m *model) asked(l api.Letter, x api.Cell) {
	back := func(b api.Letter) {
		b.From, b.To, b.Inst = m.me, l.From, l.Inst
		m.send = append(m.send, b)
	}
	if x.Status == api.Committed {
		m.seen["told"]++
		back(api.Letter{Kind: api.LCommit, Cmd: x.Cmd, Attr: x.Attr})
		return
	}
	if inst.Below(l.Ballot, x.Promised) {
		m.seen["told no"]++
		back(api.Letter{Kind: api.LNo, Ballot: x.Promised})
		return
	}
	if d := m.leads(l.Inst); d != nil && inst.Below(d.b, l.Ballot) {
		m.seen["led below"]++
		m.drop(l.Inst)
	}
	that := x.Status != api.Unknown && x.Voted == l.Ballot
	switch l.Kind {
	case api.LPre:
		if that && x.Status == api.Preaccepted {
			back(api.Letter{Kind: api.LPreOK, Ballot: l.Ballot, Attr: x.Attr})
			return
		}
		if that {
			m.seen["accepted by now"]++
			return
		}
		a := deps.Join(l.Attr, m.index.Attr(l.Inst, l.Cmd))
		if !deps.Right(a) {
			m.seen["pre: not right"]++
			return
		}
		y := pre(l.Ballot, l.Ballot, l.Cmd, a)
		if l.Ballot == (api.Ballot{}) && a == l.Attr {
			y.Same = true
		}
		if m.set(l.Inst, y) {
			back(api.Letter{Kind: api.LPreOK, Ballot: l.Ballot, Attr: a})
		}
	case api.LAccept:
		if that && x.Status == api.Accepted || m.set(l.Inst, accepted(l.Ballot, l.Ballot, l.Cmd, l.Attr)) {
			back(api.Letter{Kind: api.LAcceptOK, Ballot: l.Ballot})
		}
	case api.LPrepare:
		if l.Ballot != x.Promised {
			x.Promised = l.Ballot
			if !m.set(l.Inst, x) {
				return
			}
		}
		back(api.Letter{Kind: api.LPrepared, Ballot: l.Ballot, Cell: x})
	}
}

func (m *model) answered(d *doing, l api.Letter) {
	does := map[int]string{api.LPreOK: "proposes", api.LAcceptOK: "accepts", api.LPrepared: "prepares"}[l.Kind]
	if d == nil || d.b != l.Ballot || d.does != does || slices.Contains(d.who, l.From) {
		m.seen["not heard"]++
		return
	}
	d.who = append(d.who, l.From)
	d.attrs = append(d.attrs, l.Attr)
	d.cells = append(d.cells, l.Cell)
	switch d.does {
	case "proposes":
		m.weigh(d, false)
	case "accepts":
		if len(d.who)+1 >= m.n/2+1 {
			m.commit(d, d.x, d.a)
		}
	case "prepares":
		m.resolve(d)
	}
}

func (m *model) weigh(d *doing, late bool) bool {
	what, a := quorum.Pre(m.n, d.own, d.a, d.attrs, late)
	switch what {
	case quorum.Commit:
		m.seen["fast"]++
		m.commit(d, d.x, a)
	case quorum.Accept:
		m.accept(d, d.x, a)
	default:
		return true
	}
	return false
}

func (m *model) resolve(d *doing) {
	said := []quorum.Said{{Replica: m.me, Cell: d.cell}}
	for k, r := range d.who {
		said = append(said, quorum.Said{Replica: r, Cell: d.cells[k]})
	}
	what, x, a := quorum.Prepared(m.n, d.i.Replica, said)
	switch what {
	case quorum.Commit:
		m.seen["prepared: committed"]++
		m.commit(d, x, a)
	case quorum.Accept:
		m.seen["prepared: accept"]++
		m.accept(d, x, a)
	case quorum.Nothing:
		m.seen["prepared: nothing"]++
		m.accept(d, api.Command{}, quorum.Noop(d.i))
	case quorum.Again:
		a = deps.Join(a, m.index.Attr(d.i, x))
		if !deps.Right(a) {
			m.seen["again: not right"]++
			m.drop(d.i)
			return
		}
		if !m.set(d.i, pre(d.b, d.b, x, a)) {
			m.seen["again: not set"]++
			m.drop(d.i)
			return
		}
		m.seen["prepared: again"]++
		m.lead(doing{i: d.i, does: "proposes", b: d.b, x: x, a: a})
	}
}

func (m *model) accept(d *doing, x api.Command, a api.Attr) {
	if !m.set(d.i, accepted(d.b, d.b, x, a)) {
		m.drop(d.i)
		return
	}
	m.lead(doing{i: d.i, does: "accepts", b: d.b, x: x, a: a})
}

func (m *model) commit(d *doing, x api.Command, a api.Attr) {
	m.drop(d.i)
	y, _ := m.log.Cell(d.i)
	if m.set(d.i, committed(y.Promised, y.Voted, x, a)) {
		m.seen["committed"]++
		m.toAll(api.Letter{Kind: api.LCommit, Inst: d.i, Cmd: x, Attr: a}, nil)
	}
}

func (m *model) recover(i api.Inst) bool {
	if !inst.Right(i) || i.Replica >= m.n || m.log.Gone(i) || m.isCommitted(i) || len(m.led) >= 256 && m.leads(i) == nil {
		return false
	}
	x, _ := m.log.Cell(i)
	b := x.Promised
	if h := m.wish(i); h != nil && inst.Below(b, h.told) {
		b = h.told
	}
	b = inst.Next(b, m.me)
	if !inst.RightBallot(b) {
		m.seen["no ballot left"]++
		return false
	}
	x.Promised = b
	if !m.set(i, x) {
		return false
	}
	m.lead(doing{i: i, does: "prepares", b: b, cell: x})
	return true
}

func (m *model) want(i api.Inst) bool {
	if !inst.Right(i) || i.Replica >= m.n || m.log.Gone(i) || m.isCommitted(i) || m.wish(i) != nil || len(m.hopes) >= 256 {
		return false
	}
	m.hopes = append(m.hopes, &hopes{i: i})
	return true
}

func (m *model) tick() {
	slices.SortFunc(m.led, func(a, b *doing) int { return compare(a.i, b.i) })
	for _, d := range slices.Clone(m.led) {
		d.ticks++
		if d.ticks%4 == 0 && (d.does != "proposes" || m.weigh(d, true)) {
			m.ask(d)
		}
	}
	for _, i := range m.log.List() {
		if !m.isCommitted(i) && m.leads(i) == nil {
			m.want(i)
		}
	}
	slices.SortFunc(m.hopes, func(a, b *hopes) int { return compare(a.i, b.i) })
	m.hopes = slices.DeleteFunc(m.hopes, func(h *hopes) bool { return m.log.Gone(h.i) || m.isCommitted(h.i) })
	for _, h := range m.hopes {
		if m.leads(h.i) != nil {
			continue
		}
		h.ticks++
		between := m.me - h.i.Replica
		if between < 0 {
			between += m.n
		}
		if h.ticks >= 12+6*between && m.recover(h.i) {
			m.seen["recovered by a tick"]++
			h.ticks = 0
		}
	}
}

func compare(a, b api.Inst) int {
	if inst.Less(a, b) {
		return -1
	}
	return 1
}

func (m *model) trim(upto api.Deps) {
	m.log.Trim(upto)
	m.index.Prune(upto)
	led, wished := len(m.led), len(m.hopes)
	m.led = slices.DeleteFunc(m.led, func(d *doing) bool { return m.log.Gone(d.i) })
	m.hopes = slices.DeleteFunc(m.hopes, func(h *hopes) bool { return m.log.Gone(h.i) })
	m.seen["led ones gone"] += led - len(m.led)
	m.seen["wishes gone"] += wished - len(m.hopes)
}

// pair is a core, and the model of it, which are told the same.
type pair struct {
	t      *testing.T
	ch     *chance
	c      *Core
	m      *model
	recs   [][]byte
	asks   []api.Letter // what was asked of others, and may be answered
	far    bool         // numbers near their limits are met
	script int
}

// ballot is one of few; now and then the last one.
func (p *pair) ballot() api.Ballot {
	if p.far && p.ch.below(60) == 0 {
		return ballot(1<<30-p.ch.below(2), p.ch.below(7))
	}
	if p.ch.below(2) == 0 {
		return zero()
	}
	return ballot(p.ch.below(4), p.ch.below(p.m.n))
}

func (p *pair) inst() api.Inst {
	if p.ch.below(60) == 0 {
		return at(one(p.ch, edges()...), one(p.ch, edges()...))
	}
	top := p.m.log.Top()
	r := p.ch.below(p.m.n)
	return at(r, max(1, top[r]+2-p.ch.below(6)))
}

func (p *pair) command() api.Command {
	switch p.ch.below(8) {
	case 0:
		return api.Command{}
	case 1:
		return get(1+p.ch.below(3), 1+p.ch.below(9), "a")
	}
	return put(1+p.ch.below(3), 1+p.ch.below(9), one(p.ch, "a", "b"))
}

func (p *pair) attr() api.Attr {
	a := api.Attr{Seq: p.ch.below(5)}
	if p.far && p.ch.below(40) == 0 {
		a.Seq = 1<<40 - p.ch.below(2)
	}
	for r := range p.m.n {
		a.Deps[r] = p.ch.below(4)
	}
	return a
}

func (p *pair) cell() api.Cell {
	b, v := p.ballot(), p.ballot()
	if inst.Below(b, v) {
		b, v = v, b
	}
	switch p.ch.below(6) {
	case 0, 1:
		return promised(b)
	case 2:
		return same(b, p.command(), p.attr())
	case 3:
		return pre(b, v, p.command(), p.attr())
	case 4:
		return accepted(b, v, p.command(), p.attr())
	}
	return committed(b, v, p.command(), p.attr())
}

// letter is any, mostly to the core and right.
func (p *pair) letter() api.Letter {
	m := api.Letter{Kind: 1 + p.ch.below(8), From: p.ch.below(p.m.n), To: p.m.me, Inst: p.inst()}
	if m.From == m.To {
		m.From = (m.From + 1) % p.m.n
	}
	if m.Kind != api.LCommit {
		m.Ballot = p.ballot()
		if x, is := p.m.log.Cell(m.Inst); is && p.ch.below(2) == 0 {
			m.Ballot = x.Promised
		}
	}
	switch m.Kind {
	case api.LPre, api.LAccept, api.LCommit:
		m.Cmd, m.Attr = p.command(), p.attr()
	case api.LPreOK:
		m.Attr = p.attr()
	case api.LPrepared:
		m.Cell = p.cell()
	}
	switch p.ch.below(200) {
	case 0:
		m.To = p.ch.below(8)
	case 1:
		m.From = p.ch.below(8)
	case 2:
		m.Kind = p.ch.below(14)
	case 3:
		m.Deps[0] = 1
	}
	return m
}

// answer is one to what the core asked, mostly as another replica would say it.
func (p *pair) answer() (api.Letter, bool) {
	if len(p.asks) == 0 {
		return api.Letter{}, false
	}
	asked := p.asks[max(0, len(p.asks)-1-p.ch.below(12))]
	m := api.Letter{From: asked.To, To: p.m.me, Inst: asked.Inst, Ballot: asked.Ballot}
	switch asked.Kind {
	case api.LPre:
		m.Kind, m.Attr = api.LPreOK, asked.Attr
		if p.ch.below(3) == 0 {
			m.Attr = deps.Join(m.Attr, p.attr())
		}
	case api.LAccept:
		m.Kind = api.LAcceptOK
	case api.LPrepare:
		m.Kind, m.Cell = api.LPrepared, p.cell()
		m.Cell.Promised = asked.Ballot
	}
	if p.ch.below(12) == 0 {
		m = lNo(m.From, m.To, m.Inst, inst.Next(asked.Ballot, m.From))
	}
	return m, true
}

// step tells both the same, and looks whether they answer the same.
func (p *pair) step() {
	p.t.Helper()
	same := func(what string, got, want any) {
		p.t.Helper()
		if got != want {
			p.t.Fatalf("script %d: %s: %v, not %v", p.script, what, got, want)
		}
	}
	type proposed struct {
		i  api.Inst
		ok bool
	}
	switch k := p.ch.below(100); {
	case k < 8:
		x := p.command()
		if p.ch.below(30) == 0 {
			x.Client = 9
		}
		i, ok := p.c.Propose(x)
		j, may := p.m.propose(x)
		same("Propose", proposed{i, ok}, proposed{j, may})
	case k < 14:
		i := p.inst()
		same("Recover", p.c.Recover(i), p.m.recover(i))
	case k < 17:
		i := p.inst()
		same("Want", p.c.Want(i), p.m.want(i))
	case k < 32:
		p.c.Tick()
		p.m.tick()
	case k == 32:
		upto := p.m.log.Cut()
		for r := range upto {
			upto[r] += p.ch.below(4) - 1
		}
		p.c.Trim(upto)
		p.m.trim(upto)
	case k < 70:
		if l, is := p.answer(); is {
			same("Take of an answer", p.c.Take(l), p.m.take(l))
		}
	default:
		l := p.letter()
		same("Take", p.c.Take(l), p.m.take(l))
	}
}

// like looks whether both have the same.
func (p *pair) like() {
	p.t.Helper()
	if p.c.Top() != p.m.log.Top() || p.c.Cut() != p.m.log.Cut() {
		p.t.Fatalf("script %d: Top() = %d, Cut() = %d, not %d, %d", p.script, p.c.Top(), p.c.Cut(), p.m.log.Top(), p.m.log.Cut())
	}
	busy(p.t, p.c, len(p.m.led), len(p.m.hopes))
	for _, i := range append(p.m.log.List(), p.inst()) {
		x, is := p.c.Cell(i)
		if y, has := p.m.log.Cell(i); x != y || is != has {
			p.t.Fatalf("script %d: Cell(%d) = %+v, %t, not %+v", p.script, i, x, is, y)
		}
	}
	if p.t.Failed() {
		p.t.FailNow()
	}
}

// drain looks whether both keep and send the same.
func (p *pair) drain() {
	p.t.Helper()
	recs, send := p.c.Drain()
	if !slices.EqualFunc(recs, p.m.keep, slices.Equal) {
		p.t.Fatalf("script %d: kept: %+v, not %+v", p.script, kept(p.t, recs), kept(p.t, p.m.keep))
	}
	if !slices.Equal(send, p.m.send) {
		p.t.Fatalf("script %d: sent: %+v, not %+v", p.script, send, p.m.send)
	}
	for _, l := range send {
		if !letter.Right(l) {
			p.t.Fatalf("script %d: sent: %+v", p.script, l)
		}
		switch l.Kind {
		case api.LPre, api.LAccept, api.LPrepare:
			p.asks = append(p.asks, l)
		}
	}
	p.recs = append(p.recs, recs...)
	p.m.keep, p.m.send = nil, nil
}

func TestScripts(t *testing.T) { // P18.1 to P18.7
	ch := chance(1)
	seen := map[string]int{}
	for script := range 1500 {
		n := []int{3, 5, 7}[script%3]
		me := ch.below(n)
		c, why := New(n, me, row(), nil)
		if why != api.OK {
			t.Fatal(why)
		}
		p := &pair{t: t, ch: &ch, c: c, m: modelOf(n, me, row(), nil), far: script%4 == 0, script: script}
		p.m.seen = seen
		for range 120 {
			p.step()
			p.like()
			if ch.below(3) > 0 {
				p.drain()
			}
			if ch.below(60) == 0 {
				p.drain()
				cut := c.Cut()
				p.c, _ = New(n, me, cut, p.recs)
				p.m = modelOf(n, me, cut, p.recs)
				p.m.seen = seen
				p.like()
			}
		}
		p.drain()
	}
	for what, least := range map[string]int{
		"propose: not right": 50, "gone": 2000, "no": 1000, "told": 1000, "told no": 700, "led below": 150, "accepted by now": 100, "pre: not right": 20, "not heard": 10000,
		"fast": 700, "prepared: committed": 400, "prepared: accept": 400, "prepared: nothing": 200, "prepared: again": 400, "again: not right": 5, "again: not set": 5,
		"committed": 2000, "no ballot left": 5, "recovered by a tick": 400, "led ones gone": 300, "wishes gone": 500,
	} {
		if seen[what] < least {
			t.Errorf("%s: %d times, less than %d: this says little", what, seen[what], least)
		}
	}
}
