package core

import (
	"concord/api"
	"concord/deps"
	"concord/inst"
	"concord/letter"
	"concord/quorum"
)

// Take does what another replica's letter asks for, and tells whether that one asks about what is gone.
func (c *Core) Take(m api.Letter) bool {
	if !c.takes(m) {
		return false
	}
	if c.log.Gone(m.Inst) {
		return asks(m.Kind)
	}
	x, _ := c.log.Cell(m.Inst)
	switch m.Kind {
	case api.LPre, api.LAccept, api.LPrepare:
		c.answer(m, x)
	case api.LPreOK, api.LAcceptOK, api.LPrepared:
		c.hear(m)
	case api.LCommit:
		if x.Status != api.Committed {
			c.commit(m.Inst, m.Cmd, m.Attr)
		}
	case api.LNo:
		c.yield(m)
	}
	return false
}

// takes tells whether m is for this replica, and about an instance of its cluster.
func (c *Core) takes(m api.Letter) bool {
	return letter.Right(m) && m.To == c.me && m.From < c.n && m.Kind < api.LFront && m.Inst.Replica < c.n
}

// asks tells whether who sends letters of this Kind leads an instance.
func asks(kind int) bool {
	switch kind {
	case api.LPre, api.LAccept, api.LPrepare:
		return true
	}
	return false
}

// answer answers who leads an instance, unless what is known, x, goes ahead of it.
func (c *Core) answer(m api.Letter, x api.Cell) {
	if x.Status == api.Committed {
		c.back(m, api.Letter{Kind: api.LCommit, Cmd: x.Cmd, Attr: x.Attr})
		return
	}
	if inst.Below(m.Ballot, x.Promised) {
		c.back(m, api.Letter{Kind: api.LNo, Ballot: x.Promised})
		return
	}
	if c.leadsBelow(m) {
		delete(c.leads, m.Inst)
	}
	switch m.Kind {
	case api.LPre:
		c.takePre(m, x)
	case api.LAccept:
		c.takeAccept(m, x)
	case api.LPrepare:
		c.takePrepare(m, x)
	}
}

// back sends a letter about m's instance to who sent m.
func (c *Core) back(m, answer api.Letter) {
	answer.From, answer.To, answer.Inst = c.me, m.From, m.Inst
	c.send = append(c.send, answer)
}

// leadsBelow tells whether m's instance is led at a ballot below m's.
func (c *Core) leadsBelow(m api.Letter) bool {
	l, is := c.leads[m.Inst]
	return is && inst.Below(l.ask.Ballot, m.Ballot)
}

// takenAt tells whether what x has was taken at the ballot b.
func takenAt(x api.Cell, b api.Ballot) bool { return x.Status != api.Unknown && x.Voted == b }

// takePre takes a proposal, with what this replica knows to interfere.
func (c *Core) takePre(m api.Letter, x api.Cell) {
	if !takenAt(x, m.Ballot) {
		a := deps.Join(m.Attr, c.index.Attr(m.Inst, m.Cmd))
		same := m.Ballot == api.Ballot{} && a == m.Attr
		x = api.Cell{Status: api.Preaccepted, Promised: m.Ballot, Voted: m.Ballot, Cmd: m.Cmd, Attr: a, Same: same}
		// Attributes beyond their limits don't come to a cell.
		if !c.set(m.Inst, x) {
			return
		}
	}
	// What was accepted at this ballot was proposed at it before: its proposal is late.
	if x.Status == api.Preaccepted {
		c.back(m, api.Letter{Kind: api.LPreOK, Ballot: m.Ballot, Attr: x.Attr})
	}
}

// takeAccept takes what is to be accepted.
func (c *Core) takeAccept(m api.Letter, x api.Cell) {
	had := x.Status == api.Accepted && takenAt(x, m.Ballot)
	if had || c.set(m.Inst, api.Cell{Status: api.Accepted, Promised: m.Ballot, Voted: m.Ballot, Cmd: m.Cmd, Attr: m.Attr}) {
		c.back(m, api.Letter{Kind: api.LAcceptOK, Ballot: m.Ballot})
	}
}

// takePrepare promises a ballot, and says what is known.
func (c *Core) takePrepare(m api.Letter, x api.Cell) {
	if x.Promised != m.Ballot {
		x.Promised = m.Ballot
		if !c.set(m.Inst, x) {
			return
		}
	}
	c.back(m, api.Letter{Kind: api.LPrepared, Ballot: m.Ballot, Cell: x})
}

// hear notes an answer to what this replica leads, the first of each sender, and looks what the answers come to.
func (c *Core) hear(m api.Letter) {
	l, is := c.leads[m.Inst]
	if !is || l.ask.Kind != asked(m.Kind) || l.ask.Ballot != m.Ballot || heard(l.said, m.From) {
		return
	}
	said := quorum.Said{Replica: m.From, Cell: m.Cell}
	if m.Kind == api.LPreOK {
		said.Cell.Attr = m.Attr
	}
	l.said = append(l.said, said)
	switch m.Kind {
	case api.LPreOK:
		c.weigh(l, false)
	case api.LAcceptOK:
		if len(l.said) >= quorum.Slow(c.n) {
			c.choose(l, l.ask.Cmd, l.ask.Attr)
		}
	case api.LPrepared:
		c.resolve(l)
	}
}

// asked answers of which Kind the letter is that one of this Kind answers.
func asked(kind int) int {
	switch kind {
	case api.LPreOK:
		return api.LPre
	case api.LAcceptOK:
		return api.LAccept
	case api.LPrepared:
		return api.LPrepare
	}
	return 0
}

// yield gives up what is led below a ballot that another one heard of, and waits for it again from now on.
func (c *Core) yield(m api.Letter) {
	if !c.leadsBelow(m) {
		return
	}
	delete(c.leads, m.Inst)
	c.Want(m.Inst)
	// There may be no room for one more wish.
	if w, is := c.wishes[m.Inst]; is {
		w.ticks = 0
		if inst.Below(w.told, m.Ballot) {
			w.told = m.Ballot
		}
	}
}
