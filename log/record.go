package log

import (
	"concord/api"
	"concord/inst"
	"concord/letter"
	"concord/pack"
)

// Record answers the bytes by which Replay knows that c was set at i.
func Record(i api.Inst, c api.Cell) []byte {
	return letter.PutCell(pack.Num(pack.Num(nil, i.Replica), i.Slot), c)
}

// Replay answers the instance and the cell whose Record b is.
func Replay(b []byte) (api.Inst, api.Cell, api.Errno) {
	r := pack.Read(b)
	i := api.Inst{Replica: r.Num()}
	i.Slot = r.Num()
	c := letter.GetCell(r)
	why := r.End()
	// Asked last: what is wrong with the bytes is told ahead of what they say.
	if why == api.OK && !inst.Right(i) {
		why = api.ErrForm
	}
	if why != api.OK {
		return api.Inst{}, api.Cell{}, why
	}
	return i, c, api.OK
}
