package interf

import (
	"math"
	"slices"
	"strings"
	"testing"

	"concord/api"
)

func at(replica, slot int) api.Inst { return api.Inst{Replica: replica, Slot: slot} }

// row is deps of these slots, and nought behind them.
func row(slots ...int) api.Deps {
	var d api.Deps
	copy(d[:], slots)
	return d
}

// alike is deps with this slot in each row.
func alike(slot int) api.Deps { return row(slices.Repeat([]int{slot}, api.MaxNodes)...) }

func attr(seq int, slots ...int) api.Attr { return api.Attr{Seq: seq, Deps: row(slots...)} }

func get(client int, key string) api.Command {
	return api.Command{Kind: api.KGet, Client: client, Seq: 1, Key: key}
}

func put(client int, key string) api.Command {
	return api.Command{Kind: api.KPut, Client: client, Seq: 1, Key: key, Value: "v"}
}

func del(client int, key string) api.Command {
	return api.Command{Kind: api.KDelete, Client: client, Seq: 1, Key: key}
}

func swap(client int, key string) api.Command {
	return api.Command{Kind: api.KSwap, Client: client, Seq: 1, Key: key, Old: "o", Value: "v"}
}

func scan(client int, from, end string) api.Command {
	return api.Command{Kind: api.KRange, Client: client, Seq: 1, Key: from, End: end}
}

// edges are numbers about each limit that a slot or a Replica has, and about where numbers end.
func edges() []int {
	return []int{
		math.MinInt, math.MinInt + 1, -1 << 32, -1 << 31, -7, -2, -1, 0, 1, 2, 3, 5, 6, 7, 8, 9,
		1<<30 - 1, 1 << 30, 1<<30 + 1, 1<<31 - 1, 1 << 31, 1 << 32, 1<<32 + 1, math.MaxInt - 1, math.MaxInt,
	}
}

// chance makes numbers that look like chance, the same ones at each run.
type chance uint64

func (c *chance) below(n int) int {
	*c = *c*6364136223846793005 + 1442695040888963407
	return int(uint64(*c) >> 33 % uint64(n))
}

// one answers one of these.
func one[T any](c *chance, of ...T) T { return of[c.below(len(of))] }

// command is a right one, of few keys and clients.
func (c *chance) command() api.Command {
	client, key := 1+c.below(8), one(c, "a", "b", "c", "d", "\xff")
	switch c.below(7) {
	case 0:
		return api.Command{}
	case 1:
		return get(client, key)
	case 2:
		return put(client, key)
	case 3:
		return del(client, key)
	case 4:
		return swap(client, key)
	}
	return scan(client, one(c, "", "a", "b", "c"), one(c, "", "a", "b", "c", "d"))
}

// wrong answers c with something wrong with it.
func (c *chance) wrong(d api.Command) api.Command {
	switch c.below(6) {
	case 0:
		d.Kind = one(c, -1, 6, math.MinInt, math.MaxInt)
	case 1:
		d.Client = one(c, -1, 9, 1<<32+1)
	case 2:
		d.Seq = one(c, -1, 1<<40+1)
	case 3:
		d.Key = strings.Repeat("k", 17)
	case 4:
		d.Value = strings.Repeat("v", 65)
	case 5:
		d.Kind, d.Old, d.Value = 1, "o", "v"
	}
	return d
}

// isInst is P6.1's Right.
func isInst(i api.Inst) bool {
	return slices.Contains([]int{0, 1, 2, 3, 4, 5, 6}, i.Replica) && i.Slot > 0 && i.Slot <= 1073741824
}

// isCommand is P5.1's Right.
func isCommand(c api.Command) bool {
	if c == (api.Command{}) {
		return true
	}
	if c.Client < 1 || c.Client > 8 || c.Seq < 1 || c.Seq > 1<<40 {
		return false
	}
	if len(c.Key) > 16 || len(c.End) > 16 || len(c.Old) > 64 || len(c.Value) > 64 {
		return false
	}
	switch c.Kind {
	case 1, 3:
		return c.Key != "" && c.End == "" && c.Old == "" && c.Value == ""
	case 2:
		return c.Key != "" && c.End == "" && c.Old == ""
	case 4:
		return c.Key != "" && c.End == ""
	case 5:
		return c.Old == "" && c.Value == ""
	}
	return false
}

// touches tells by P5.2 whether c's keys, if it has some, have k among them.
func touches(c api.Command, k string) bool {
	if c.Kind == 5 {
		return c.Key <= k && (c.End == "" || k < c.End)
	}
	return c.Kind >= 1 && c.Kind <= 4 && c.Key == k
}

// clash is P5.3: of any two spans that meet, the greater beginning is a key that both have.
func clash(a, b api.Command) bool {
	if a.Kind < 1 || a.Kind > 5 || b.Kind < 1 || b.Kind > 5 {
		return false
	}
	if a.Client == b.Client {
		return true
	}
	if (a.Kind == 1 || a.Kind == 5) && (b.Kind == 1 || b.Kind == 5) {
		return false
	}
	k := max(a.Key, b.Key)
	return touches(a, k) && touches(b, k)
}

// entry is what a model knows of an instance.
type entry struct {
	i   api.Inst
	c   api.Command
	seq int
}

// model is an Index by the chapter's words: a list in the order in which its instances came.
type model struct {
	l   []entry
	cut api.Deps
}

func (m *model) note(i api.Inst, c api.Command, seq int) bool {
	if !isInst(i) || i.Slot <= m.cut[i.Replica] || !isCommand(c) || seq < 0 || seq > 1<<40 {
		return false
	}
	m.l = slices.DeleteFunc(m.l, func(e entry) bool { return e.i == i })
	m.l = append(m.l, entry{i, c, seq})
	return true
}

func (m *model) attr(i api.Inst, c api.Command) api.Attr {
	var seqs []int
	slots := [7][]int{}
	for _, e := range m.l {
		if e.i == i || e.i.Replica == i.Replica && e.i.Slot > i.Slot || !clash(e.c, c) {
			continue
		}
		seqs = append(seqs, e.seq+1)
		slots[e.i.Replica] = append(slots[e.i.Replica], e.i.Slot)
	}
	for r := range slots {
		if r != i.Replica {
			slots[r] = append(slots[r], m.cut[r])
		} else if isInst(i) {
			slots[r] = append(slots[r], i.Slot-1)
		}
	}
	a := api.Attr{Seq: slices.Max(append(seqs, 0))}
	for r := range slots {
		a.Deps[r] = slices.Max(append(slots[r], 0))
	}
	return a
}

func (m *model) prune(upto api.Deps) {
	for r, slot := range upto {
		if slot > 1073741824 {
			slot = 1073741824
		}
		if slot > m.cut[r] {
			m.cut[r] = slot
		}
	}
	m.l = slices.DeleteFunc(m.l, func(e entry) bool { return e.i.Slot <= m.cut[e.i.Replica] })
}

// like tells of x where it isn't like m.
func like(t *testing.T, x *Index, m *model) {
	t.Helper()
	if x.Len() != len(m.l) || x.Cut() != m.cut {
		t.Fatalf("Len() = %d, Cut() = %d; not %d, %d", x.Len(), x.Cut(), len(m.l), m.cut)
	}
}

// probes are commands of client 8, with which others' clash one by one.
func probes() []api.Command {
	l := []api.Command{scan(8, "", "")}
	for _, key := range []string{"a", "b", "c"} {
		l = append(l, get(8, key), put(8, key))
	}
	return l
}

// told is all that can be told of x: its cut, how much is known, and on what each probe at each of these instances depends.
func told(x *Index) []int {
	l := []int{x.Len()}
	cut := x.Cut()
	l = append(l, cut[:]...)
	for _, c := range probes() {
		for r := -1; r <= 7; r++ {
			for _, slot := range []int{0, 1, 3, 5, 1 << 30, 1<<30 + 1} {
				a := x.Attr(at(r, slot), c)
				l = append(append(l, a.Seq), a.Deps[:]...)
			}
		}
	}
	return l
}
