package letter

import (
	"slices"

	"concord/api"
	"concord/cmd"
	"concord/deps"
	"concord/inst"
	"concord/pack"
)

// RightCell tells whether c may be.
func RightCell(c api.Cell) bool {
	// Of an instance that nothing was taken for a promise alone can be known.
	if c.Status == api.Unknown && c != (api.Cell{Promised: c.Promised}) {
		return false
	}
	if c.Same && (c.Status != api.Preaccepted || c.Voted != api.Ballot{}) {
		return false
	}
	return c.Status >= api.Unknown && c.Status <= api.Committed &&
		inst.RightBallot(c.Promised) && inst.RightBallot(c.Voted) && !inst.Below(c.Promised, c.Voted) &&
		cmd.Right(c.Cmd) && deps.Right(c.Attr)
}

// PutCell answers b's bytes, and behind them those of c.
func PutCell(b []byte, c api.Cell) []byte {
	// c's bytes are made apart: each of pack's calls copies all that stands ahead.
	return slices.Concat(b, packedCell(c))
}

// GetCell reads a cell.
func GetCell(r *pack.Reader) api.Cell {
	if r == nil {
		return api.Cell{}
	}
	c := readCell(r)
	if !RightCell(c) {
		r.Fail()
	}
	// Behind an error c may look right: what wasn't read is zero.
	if r.Wrong() != api.OK {
		return api.Cell{}
	}
	return c
}

// packedCell answers c's bytes; none, if it isn't right.
func packedCell(c api.Cell) []byte {
	if !RightCell(c) {
		return nil
	}
	b := putBallot(pack.Num(nil, c.Status), c.Promised)
	if c.Status == api.Unknown {
		return b
	}
	b = putBallot(b, c.Voted)
	b = cmd.Put(b, c.Cmd)
	b = deps.Put(b, c.Attr)
	return pack.Flag(b, c.Same)
}

// readCell asks r for all that packedCell writes, whatever it turns out to be.
func readCell(r *pack.Reader) api.Cell {
	c := api.Cell{Status: r.Num()}
	c.Promised = getBallot(r)
	if c.Status == api.Unknown {
		return c
	}
	c.Voted = getBallot(r)
	c.Cmd = cmd.Get(r)
	c.Attr = deps.Get(r)
	c.Same = r.Flag()
	return c
}

// putBallot answers b's bytes, and behind them those of a ballot.
func putBallot(b []byte, x api.Ballot) []byte { return putNums(b, x.Epoch, x.Replica) }

// getBallot asks r for what putBallot writes.
func getBallot(r *pack.Reader) api.Ballot {
	epoch := r.Num()
	return api.Ballot{Epoch: epoch, Replica: r.Num()}
}

// putNums answers b's bytes, and behind them these numbers'.
func putNums(b []byte, l ...int) []byte {
	for _, n := range l {
		b = pack.Num(b, n)
	}
	return b
}
