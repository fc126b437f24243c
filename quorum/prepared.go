package quorum

import (
	"concord/api"
	"concord/inst"
)

// Said is what a replica answered to a Prepare.
type Said struct {
	Replica int
	Cell    api.Cell
}

// Prepared answers what was said to a Prepare of one of owner's instances comes to: what may have been committed goes ahead of all else.
func Prepared(n, owner int, l []Said) (int, api.Command, api.Attr) {
	if len(l) < Slow(n) {
		return Wait, api.Command{}, api.Attr{}
	}
	if c, is := committed(l); is {
		return Commit, c.Cmd, c.Attr
	}
	if c, is := latest(l, api.Accepted); is {
		return Accept, c.Cmd, c.Attr
	}
	proposed, is := latest(l, api.Preaccepted)
	if !is {
		return Nothing, api.Command{}, api.Attr{}
	}
	if c, is := fast(n, owner, l); is {
		return Accept, c.Cmd, c.Attr
	}
	return Again, proposed.Cmd, proposed.Attr
}

// committed answers the first cell that is Committed, and whether there is one.
func committed(l []Said) (api.Cell, bool) {
	for _, s := range l {
		if s.Cell.Status == api.Committed {
			return s.Cell, true
		}
	}
	return api.Cell{}, false
}

// latest answers the cell of this Status that was taken at the greatest ballot, the first of these, and whether there is one.
func latest(l []Said, status int) (api.Cell, bool) {
	var best api.Cell
	found := false
	for _, s := range l {
		if s.Cell.Status == status && (!found || inst.Below(best.Voted, s.Cell.Voted)) {
			best, found = s.Cell, true
		}
	}
	return best, found
}

// fast answers what a fast quorum may have taken, and whether one may have.
func fast(n, owner int, l []Said) (api.Cell, bool) {
	var first api.Cell
	same := 0
	for _, s := range l {
		// The owner alone commits by a fast quorum: one that answers and hasn't done so never will.
		if s.Replica == owner {
			return api.Cell{}, false
		}
		if s.Cell.Status != api.Preaccepted || !s.Cell.Same {
			continue
		}
		if same == 0 {
			first = s.Cell
		}
		same++
	}
	// A fast quorum leaves out at most one of a slow one. Of a cluster of less than two none at all is enough, but has no cell.
	if same == 0 || same < n/2 {
		return api.Cell{}, false
	}
	return first, true
}
