package core

import (
	"maps"
	"slices"

	"concord/api"
	"concord/inst"
)

// wish is that an instance gets committed.
type wish struct {
	ticks int
	told  api.Ballot // the greatest one that another replica heard of, and said so
}

// Recover takes the lead of i at a ballot of its own: it asks the others what they know of it.
func (c *Core) Recover(i api.Inst) bool {
	_, led := c.leads[i]
	if !c.open(i) || !led && len(c.leads) >= api.MaxLeads {
		return false
	}
	x, _ := c.log.Cell(i)
	b := x.Promised
	if w, is := c.wishes[i]; is && inst.Below(b, w.told) {
		b = w.told
	}
	// A ballot beyond its limit doesn't come to a cell.
	x.Promised = inst.Next(b, c.me)
	return c.begin(api.LPrepare, i, x)
}

// Want wishes for i, unless it is wished for by now.
func (c *Core) Want(i api.Inst) bool {
	if _, is := c.wishes[i]; is || !c.open(i) || len(c.wishes) >= api.MaxWants {
		return false
	}
	c.wishes[i] = &wish{}
	return true
}

// Tick lets time pass: what isn't answered is asked again, and what doesn't come is recovered.
func (c *Core) Tick() {
	c.tickLeads()
	c.wantRest()
	c.tickWishes()
}

// tickLeads asks again, from time to time, who hasn't answered.
func (c *Core) tickLeads() {
	for _, i := range rising(c.leads) {
		l := c.leads[i]
		l.ticks++
		if l.ticks%api.Resend != 0 {
			continue
		}
		if l.ask.Kind != api.LPre || c.weigh(l, true) {
			c.toAll(l.ask, l.said)
		}
	}
}

// wantRest wishes for each instance that is known of, but neither committed nor led.
func (c *Core) wantRest() {
	for _, i := range c.log.List() {
		if _, led := c.leads[i]; !led {
			c.Want(i)
		}
	}
}

// tickWishes recovers what was wished for too long.
func (c *Core) tickWishes() {
	for _, i := range rising(c.wishes) {
		if !c.open(i) {
			delete(c.wishes, i)
			continue
		}
		if _, led := c.leads[i]; led {
			continue
		}
		w := c.wishes[i]
		w.ticks++
		if w.ticks >= c.patience(i) && c.Recover(i) {
			w.ticks = 0
		}
	}
}

// patience answers for how many ticks i is waited for. It isn't the same for all, so that they don't recover it at once.
func (c *Core) patience(i api.Inst) int {
	return api.Patience + api.Stagger*((c.me-i.Replica+c.n)%c.n)
}

// rising answers a map's instances by inst.Less.
func rising[T any](m map[api.Inst]T) []api.Inst {
	return inst.New(slices.Collect(maps.Keys(m))...).List()
}
