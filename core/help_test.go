package core

import (
	"math"
	"slices"
	"testing"

	"concord/api"
	"concord/letter"
	"concord/log"
)

func at(replica, slot int) api.Inst { return api.Inst{Replica: replica, Slot: slot} }

func ballot(epoch, replica int) api.Ballot { return api.Ballot{Epoch: epoch, Replica: replica} }

func zero() api.Ballot { return api.Ballot{} }

// row is deps of these slots, and nought behind them.
func row(slots ...int) api.Deps {
	var d api.Deps
	copy(d[:], slots)
	return d
}

// alone is deps with this slot in one row, and nought in the others.
func alone(replica, slot int) api.Deps {
	var d api.Deps
	d[replica] = slot
	return d
}

func attr(seq int, slots ...int) api.Attr { return api.Attr{Seq: seq, Deps: row(slots...)} }

func put(client, seq int, key string) api.Command {
	return api.Command{Kind: api.KPut, Client: client, Seq: seq, Key: key, Value: "v"}
}

func get(client, seq int, key string) api.Command {
	return api.Command{Kind: api.KGet, Client: client, Seq: seq, Key: key}
}

// putA and putB are what is mostly told of; they don't clash.
func putA() api.Command { return put(1, 1, "a") }

func putB() api.Command { return put(2, 1, "b") }

// edges are numbers about each limit that a slot or a Replica has, and about where numbers end.
func edges() []int {
	return []int{
		math.MinInt, -1 << 32, -8, -7, -3, -1, 0, 1, 2, 3, 4, 5, 6, 7, 8, 9,
		1<<30 - 1, 1 << 30, 1<<30 + 1, 1<<31 + 1, 1 << 32, 1<<32 + 1, math.MaxInt,
	}
}

// made is a core without records.
func made(t *testing.T, n, me int) *Core { return madeOf(t, n, me, row()) }

// madeOf is a core of a cut and of cells at instances, by turns.
func madeOf(t *testing.T, n, me int, cut api.Deps, l ...stand) *Core {
	t.Helper()
	var recs [][]byte
	for _, s := range l {
		recs = append(recs, log.Record(s.i, s.x))
	}
	c, why := New(n, me, cut, recs)
	if why != api.OK {
		t.Fatalf("New(%d, %d, %d): %d", n, me, cut, why)
	}
	return c
}

// stand is a cell at an instance.
type stand struct {
	i api.Inst
	x api.Cell
}

// pre is a cell of a proposal that was taken with more than was proposed.
func pre(promised, voted api.Ballot, x api.Command, a api.Attr) api.Cell {
	return api.Cell{Status: api.Preaccepted, Promised: promised, Voted: voted, Cmd: x, Attr: a}
}

// same is a cell of a proposal that was taken as it was.
func same(promised api.Ballot, x api.Command, a api.Attr) api.Cell {
	return api.Cell{Status: api.Preaccepted, Promised: promised, Cmd: x, Attr: a, Same: true}
}

func accepted(promised, voted api.Ballot, x api.Command, a api.Attr) api.Cell {
	return api.Cell{Status: api.Accepted, Promised: promised, Voted: voted, Cmd: x, Attr: a}
}

func committed(promised, voted api.Ballot, x api.Command, a api.Attr) api.Cell {
	return api.Cell{Status: api.Committed, Promised: promised, Voted: voted, Cmd: x, Attr: a}
}

// promised is a cell of which a promise alone is known.
func promised(b api.Ballot) api.Cell { return api.Cell{Promised: b} }

// The letters of each Kind, in the order in which their fields are named.

func lPre(from, to int, i api.Inst, b api.Ballot, x api.Command, a api.Attr) api.Letter {
	return api.Letter{Kind: api.LPre, From: from, To: to, Inst: i, Ballot: b, Cmd: x, Attr: a}
}

func lPreOK(from, to int, i api.Inst, b api.Ballot, a api.Attr) api.Letter {
	return api.Letter{Kind: api.LPreOK, From: from, To: to, Inst: i, Ballot: b, Attr: a}
}

func lAccept(from, to int, i api.Inst, b api.Ballot, x api.Command, a api.Attr) api.Letter {
	return api.Letter{Kind: api.LAccept, From: from, To: to, Inst: i, Ballot: b, Cmd: x, Attr: a}
}

func lAcceptOK(from, to int, i api.Inst, b api.Ballot) api.Letter {
	return api.Letter{Kind: api.LAcceptOK, From: from, To: to, Inst: i, Ballot: b}
}

func lCommit(from, to int, i api.Inst, x api.Command, a api.Attr) api.Letter {
	return api.Letter{Kind: api.LCommit, From: from, To: to, Inst: i, Cmd: x, Attr: a}
}

func lPrepare(from, to int, i api.Inst, b api.Ballot) api.Letter {
	return api.Letter{Kind: api.LPrepare, From: from, To: to, Inst: i, Ballot: b}
}

func lPrepared(from, to int, i api.Inst, b api.Ballot, x api.Cell) api.Letter {
	return api.Letter{Kind: api.LPrepared, From: from, To: to, Inst: i, Ballot: b, Cell: x}
}

func lNo(from, to int, i api.Inst, b api.Ballot) api.Letter {
	return api.Letter{Kind: api.LNo, From: from, To: to, Inst: i, Ballot: b}
}

// kept is what the records say, each right to the byte.
func kept(t *testing.T, recs [][]byte) []stand {
	t.Helper()
	var l []stand
	for _, b := range recs {
		i, x, why := log.Replay(b)
		if why != api.OK || !slices.Equal(b, log.Record(i, x)) {
			t.Fatalf("%x is to be kept: %d", b, why)
		}
		l = append(l, stand{i, x})
	}
	return l
}

// drained looks whether just this is to be kept and sent, and whether the cells that are kept stand there.
func drained(t *testing.T, c *Core, cells []stand, letters []api.Letter) {
	t.Helper()
	recs, send := c.Drain()
	if l := kept(t, recs); !slices.Equal(l, cells) {
		t.Errorf("kept: %+v, not %+v", l, cells)
	}
	if !slices.Equal(send, letters) {
		t.Errorf("sent: %+v, not %+v", send, letters)
	}
	for k, s := range cells {
		last := !slices.ContainsFunc(cells[k+1:], func(o stand) bool { return o.i == s.i })
		if x, is := c.Cell(s.i); last && (x != s.x || !is) {
			t.Errorf("Cell(%d) = %+v, not %+v", s.i, x, s.x)
		}
	}
	for _, m := range send {
		if !letter.Right(m) {
			t.Errorf("sent: %+v, which isn't right", m)
		}
	}
	if recs, send = c.Drain(); len(recs) != 0 || len(send) != 0 {
		t.Errorf("drained again: %x, %+v", recs, send)
	}
}

// quiet looks whether nothing is to be kept or sent.
func quiet(t *testing.T, c *Core) {
	t.Helper()
	drained(t, c, nil, nil)
}

// busy looks how much is led, and wished for.
func busy(t *testing.T, c *Core, leads, wishes int) {
	t.Helper()
	if l, w := c.Busy(); l != leads || w != wishes {
		t.Errorf("Busy() = %d, %d, not %d, %d", l, w, leads, wishes)
	}
}

// takes gives c a letter about what isn't gone.
func takes(t *testing.T, c *Core, l ...api.Letter) {
	t.Helper()
	for _, m := range l {
		if c.Take(m) {
			t.Errorf("Take(%+v) = true", m)
		}
	}
}

// chance makes numbers that look like chance, the same ones at each run.
type chance uint64

func (c *chance) below(n int) int {
	*c = *c*6364136223846793005 + 1442695040888963407
	return int(uint64(*c) >> 33 % uint64(n))
}

// one answers one of these.
func one[T any](c *chance, of ...T) T { return of[c.below(len(of))] }
