package core

import (
	"concord/api"
	"concord/deps"
	"concord/quorum"
)

// lead is what a replica does for an instance: it proposes, has something accepted, or prepares.
type lead struct {
	ask   api.Letter    // an LPre, LAccept or LPrepare, to nobody by now: it says which of these is done, and with what
	said  []quorum.Said // what this replica says itself, and behind it what was answered, in the order in which it came
	ticks int
}

// heard tells whether replica r is one of those who said something.
func heard(said []quorum.Said, r int) bool {
	for _, s := range said {
		if s.Replica == r {
			return true
		}
	}
	return false
}

// begin sets x at i, and leads it from now on, by letters of this Kind at the ballot that x has Promised. If x may not stand there, nothing is changed.
func (c *Core) begin(kind int, i api.Inst, x api.Cell) bool {
	if !c.set(i, x) {
		return false
	}
	ask := api.Letter{Kind: kind, From: c.me, Inst: i, Ballot: x.Promised}
	if kind != api.LPrepare {
		ask.Cmd, ask.Attr = x.Cmd, x.Attr
	}
	mine := []quorum.Said{{Replica: c.me, Cell: x}}
	c.leads[i] = &lead{ask: ask, said: mine}
	c.toAll(ask, mine)
	return true
}

// toAll sends m to each replica that isn't one of those who said something: this one always is.
func (c *Core) toAll(m api.Letter, said []quorum.Said) {
	for r := range c.n {
		if !heard(said, r) {
			m.To = r
			c.send = append(c.send, m)
		}
	}
}

// weigh looks what the replies to a proposal come to, and tells whether more of them are waited for.
func (c *Core) weigh(l *lead, late bool) bool {
	var replies []api.Attr
	for _, s := range l.said[1:] {
		replies = append(replies, s.Cell.Attr)
	}
	// The zero ballot is that of Propose alone: Recover's have an Epoch above 0.
	first := l.ask.Ballot == api.Ballot{}
	what, a := quorum.Pre(c.n, first, l.ask.Attr, replies, late)
	switch what {
	case quorum.Commit:
		c.choose(l, l.ask.Cmd, a)
	case quorum.Accept:
		c.accept(l, l.ask.Cmd, a)
	}
	return what == quorum.Wait
}

// resolve looks what the answers to a Prepare come to.
func (c *Core) resolve(l *lead) {
	i := l.ask.Inst
	what, x, a := quorum.Prepared(c.n, i.Replica, l.said)
	switch what {
	case quorum.Commit:
		c.choose(l, x, a)
	case quorum.Accept:
		c.accept(l, x, a)
	case quorum.Nothing:
		c.accept(l, api.Command{}, quorum.Noop(i))
	case quorum.Again:
		c.onward(l, api.LPre, api.Preaccepted, x, deps.Join(a, c.index.Attr(i, x)))
	}
}

// accept has x and a accepted at the ballot at which l is led.
func (c *Core) accept(l *lead, x api.Command, a api.Attr) {
	c.onward(l, api.LAccept, api.Accepted, x, a)
}

// onward goes on from l to what comes next at its ballot; if that may not stand, the instance isn't led any more.
func (c *Core) onward(l *lead, kind, status int, x api.Command, a api.Attr) {
	i, b := l.ask.Inst, l.ask.Ballot
	if !c.begin(kind, i, api.Cell{Status: status, Promised: b, Voted: b, Cmd: x, Attr: a}) {
		delete(c.leads, i)
	}
}

// choose commits x and a where l is led, and tells all.
func (c *Core) choose(l *lead, x api.Command, a api.Attr) {
	i := l.ask.Inst
	if c.commit(i, x, a) {
		c.toAll(api.Letter{Kind: api.LCommit, From: c.me, Inst: i, Cmd: x, Attr: a}, l.said[:1])
	}
}

// commit lets x and a be chosen at i for good; its ballots stay.
func (c *Core) commit(i api.Inst, x api.Command, a api.Attr) bool {
	delete(c.leads, i)
	y, _ := c.log.Cell(i)
	return c.set(i, api.Cell{Status: api.Committed, Promised: y.Promised, Voted: y.Voted, Cmd: x, Attr: a})
}
