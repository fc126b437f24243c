package log

import (
	"encoding/binary"
	"encoding/hex"
	"slices"
	"strings"
	"testing"

	"concord/api"
)

func at(replica, slot int) api.Inst { return api.Inst{Replica: replica, Slot: slot} }

func ballot(epoch, replica int) api.Ballot { return api.Ballot{Epoch: epoch, Replica: replica} }

// row is deps of these slots, and nought behind them.
func row(slots ...int) api.Deps {
	var d api.Deps
	copy(d[:], slots)
	return d
}

// alike is deps with this slot in each row.
func alike(slot int) api.Deps { return row(slices.Repeat([]int{slot}, api.MaxNodes)...) }

// alone is deps with this slot in one row, and nought in the others.
func alone(replica, slot int) api.Deps {
	var d api.Deps
	d[replica] = slot
	return d
}

func attr(seq int, slots ...int) api.Attr { return api.Attr{Seq: seq, Deps: row(slots...)} }

// getA is a short command: 02 02 04 02 61.
func getA() api.Command {
	return api.Command{Kind: api.KGet, Client: 1, Seq: 2, Key: "a"}
}

// longest is the command with the most bytes.
func longest() api.Command {
	return api.Command{Kind: api.KSwap, Client: 8, Seq: 1 << 40, Key: strings.Repeat("k", 16), Old: strings.Repeat("\xfe", 64), Value: strings.Repeat("v", 64)}
}

// stands is a cell of getA with these ballots.
func stands(status int, promised, voted api.Ballot) api.Cell {
	return api.Cell{Status: status, Promised: promised, Voted: voted, Cmd: getA(), Attr: attr(3, 1, 0, 5)}
}

// first is a cell of getA of which no ballot but the zero one was heard.
func first(status int) api.Cell { return stands(status, api.Ballot{}, api.Ballot{}) }

// promised is a cell of which a promise alone is known.
func promised(b api.Ballot) api.Cell { return api.Cell{Promised: b} }

// with answers c with something done to it.
func with(c api.Cell, f func(c *api.Cell)) api.Cell {
	f(&c)
	return c
}

// same is a proposal with just those attributes that were proposed.
func same(b api.Ballot) api.Cell {
	return with(stands(api.Preaccepted, b, api.Ballot{}), func(c *api.Cell) { c.Same = true })
}

// cells are right ones of each Status, with ballots about one another, and with more than one command and attributes.
func cells() []api.Cell {
	l := []api.Cell{
		{}, {Status: api.Preaccepted}, {Status: api.Accepted}, {Status: api.Committed}, {Status: api.Preaccepted, Same: true},
		{Status: api.Committed, Promised: ballot(1<<30, 6), Voted: ballot(1<<30, 6), Cmd: longest(), Attr: attr(1<<40, 1, 2, 3, 4, 5, 6, 1<<30)},
	}
	// They rise; the Replica alone is greater of some, the Epoch alone of others, or the Epoch with a lesser Replica.
	ballots := []api.Ballot{{}, ballot(0, 1), ballot(1, 0), ballot(1, 1), ballot(1, 2), ballot(2, 0), ballot(1<<30, 6)}
	for p, b := range ballots {
		l = append(l, promised(b), same(b))
		for _, v := range ballots[:p+1] {
			for status := api.Preaccepted; status <= api.Committed; status++ {
				l = append(l, stands(status, b, v))
			}
		}
	}
	others := []func(c *api.Cell){
		func(c *api.Cell) { c.Cmd.Value = "v"; c.Cmd.Kind = api.KPut },
		func(c *api.Cell) { c.Cmd.Seq = 3 },
		func(c *api.Cell) { c.Cmd = api.Command{} },
		func(c *api.Cell) { c.Attr.Seq = 4 },
		func(c *api.Cell) { c.Attr.Deps[6] = 1 },
		func(c *api.Cell) { c.Attr = api.Attr{} },
	}
	for status := api.Preaccepted; status <= api.Committed; status++ {
		for _, f := range others {
			l = append(l, with(first(status), f), with(stands(status, ballot(1, 1), ballot(1, 0)), f), with(stands(status, ballot(1, 2), ballot(1, 2)), f))
		}
	}
	return l
}

// wrongCells aren't right, each by one thing that letter's chapter asks.
func wrongCells() []api.Cell {
	l := []api.Cell{
		{Status: -1}, {Status: 4},
		promised(ballot(-1, 0)), promised(ballot(1<<30+1, 0)), promised(ballot(0, -1)), promised(ballot(0, 7)),
		stands(api.Accepted, ballot(1, 0), ballot(1, 1)), stands(api.Committed, ballot(0, 6), ballot(1, 0)),
		stands(api.Accepted, ballot(1, 0), ballot(0, -1)), stands(api.Accepted, ballot(1, 0), ballot(-1, 0)),
		{Promised: ballot(1, 0), Voted: ballot(1, 0)}, {Cmd: getA()}, {Attr: attr(1)}, {Same: true},
		with(first(api.Accepted), func(c *api.Cell) { c.Same = true }),
		with(first(api.Committed), func(c *api.Cell) { c.Same = true }),
		with(stands(api.Preaccepted, ballot(1, 0), ballot(1, 0)), func(c *api.Cell) { c.Same = true }),
	}
	for status := api.Preaccepted; status <= api.Committed; status++ {
		for _, f := range []func(c *api.Cell){
			func(c *api.Cell) { c.Cmd.Kind = 6 },
			func(c *api.Cell) { c.Cmd.Client = 9 },
			func(c *api.Cell) { c.Cmd.Key = "" },
			func(c *api.Cell) { c.Cmd.Value = "v" },
			func(c *api.Cell) { c.Attr.Seq = -1 },
			func(c *api.Cell) { c.Attr.Seq = 1<<40 + 1 },
			func(c *api.Cell) { c.Attr.Deps[6] = 1<<30 + 1 },
			func(c *api.Cell) { c.Attr.Deps[0] = -1 },
		} {
			l = append(l, with(first(status), f))
		}
	}
	return l
}

// edges are numbers about each limit that a slot or a Replica has, and about where numbers end.
func edges() []int {
	return []int{
		-1 << 63, -1<<63 + 1, -1 << 32, -1 << 31, -7, -2, -1, 0, 1, 2, 3, 5, 6, 7, 8, 9, 63, 64,
		1<<30 - 1, 1 << 30, 1<<30 + 1, 1<<31 - 1, 1 << 31, 1 << 32, 1<<32 + 1, 1<<63 - 2, 1<<63 - 1,
	}
}

// isInst is P6.1's Right.
func isInst(i api.Inst) bool {
	return slices.Contains([]int{0, 1, 2, 3, 4, 5, 6}, i.Replica) && i.Slot > 0 && i.Slot <= 1073741824
}

// isBallot is P6.2's RightBallot.
func isBallot(b api.Ballot) bool {
	return slices.Contains([]int{0, 1, 2, 3, 4, 5, 6}, b.Replica) && b.Epoch >= 0 && b.Epoch <= 1073741824
}

// below is P6.2's Below.
func below(a, b api.Ballot) bool {
	if a.Epoch == b.Epoch {
		return a.Replica < b.Replica
	}
	return a.Epoch < b.Epoch
}

// isCommand is P5.1's Right.
func isCommand(c api.Command) bool {
	if c == (api.Command{}) {
		return true
	}
	if c.Client < 1 || c.Client > 8 || c.Seq < 1 || c.Seq > 1<<40 {
		return false
	}
	if len(c.Key) > 16 || len(c.End) > 16 || len(c.Old) > 64 || len(c.Value) > 64 {
		return false
	}
	switch c.Kind {
	case 1, 3:
		return c.Key != "" && c.End == "" && c.Old == "" && c.Value == ""
	case 2:
		return c.Key != "" && c.End == "" && c.Old == ""
	case 4:
		return c.Key != "" && c.End == ""
	case 5:
		return c.Old == "" && c.Value == ""
	}
	return false
}

// isAttr is P7.1's Right.
func isAttr(a api.Attr) bool {
	return a.Seq >= 0 && a.Seq <= 1<<40 && slices.Min(a.Deps[:]) >= 0 && slices.Max(a.Deps[:]) <= 1<<30
}

// isCell is P15.1, sentence by sentence.
func isCell(c api.Cell) bool {
	switch {
	case !slices.Contains([]int{0, 1, 2, 3}, c.Status):
		return false
	case !isBallot(c.Promised) || !isBallot(c.Voted) || below(c.Promised, c.Voted):
		return false
	case !isCommand(c.Cmd) || !isAttr(c.Attr):
		return false
	case c.Same && (c.Status != 1 || c.Voted != api.Ballot{}):
		return false
	}
	return c.Status != 0 || c.Voted == api.Ballot{} && c.Cmd == api.Command{} && c.Attr == api.Attr{}
}

// unhex is the bytes whose digits these are, whatever blanks stand between.
func unhex(t *testing.T, s string) []byte {
	t.Helper()
	b, err := hex.DecodeString(strings.ReplaceAll(s, " ", ""))
	if err != nil {
		t.Fatal(err)
	}
	return b
}

// number is a number's bytes: the library's form of it is layer 3's.
func number(n int) []byte { return binary.AppendVarint(nil, int64(n)) }

func numbers(l ...int) []byte {
	var b []byte
	for _, n := range l {
		b = append(b, number(n)...)
	}
	return b
}

func text(s string) []byte { return slices.Concat(number(len(s)), []byte(s)) }

func flag(f bool) []byte {
	if f {
		return []byte{1}
	}
	return []byte{0}
}

// bytesOfCommand is P5.4, whether the command is right or not.
func bytesOfCommand(c api.Command) []byte {
	b := number(c.Kind)
	if c.Kind == 0 {
		return b
	}
	b = slices.Concat(b, numbers(c.Client, c.Seq), text(c.Key))
	switch c.Kind {
	case 2:
		b = append(b, text(c.Value)...)
	case 4:
		b = slices.Concat(b, text(c.Old), text(c.Value))
	case 5:
		b = append(b, text(c.End)...)
	}
	return b
}

// bytesOfCell is P15.3, whether the cell is right or not.
func bytesOfCell(c api.Cell) []byte {
	b := numbers(c.Status, c.Promised.Epoch, c.Promised.Replica)
	if c.Status == 0 {
		return b
	}
	deps := numbers(c.Attr.Deps[:]...)
	return slices.Concat(b, numbers(c.Voted.Epoch, c.Voted.Replica), bytesOfCommand(c.Cmd), number(c.Attr.Seq), deps, flag(c.Same))
}

// bytesOf is P16.6's Record, whether the cell is right or not.
func bytesOf(i api.Inst, c api.Cell) []byte {
	return slices.Concat(numbers(i.Replica, i.Slot), bytesOfCell(c))
}

// asker asks for what stands in bytes, by the words of layers 3, 5, 7, 15 and 16.
type asker struct {
	b   []byte
	why api.Errno
}

func (a *asker) fail(why api.Errno) {
	if a.why == api.OK {
		a.why = why
	}
}

// take is the next n bytes, unless they have this error.
func (a *asker) take(n int, why api.Errno) []byte {
	if why == api.OK && n > len(a.b) {
		why = api.ErrShort
	}
	a.fail(why)
	if a.why != api.OK {
		return nil
	}
	b := a.b[:n]
	a.b = a.b[n:]
	return b
}

// peek is the number that stands next, how many bytes it has, and its error.
func (a *asker) peek() (n, size int, why api.Errno) {
	for k, p := range a.b {
		if k > 0 && p == 0 || k == 9 && p > 1 {
			return 0, 0, api.ErrForm
		}
		if p < 128 {
			n, _ := binary.Varint(a.b[:k+1])
			return int(n), k + 1, api.OK
		}
	}
	return 0, 0, api.ErrShort
}

func (a *asker) num() int {
	n, size, why := a.peek()
	if a.take(size, why) == nil {
		return 0
	}
	return n
}

func (a *asker) text(most int) string {
	n, size, why := a.peek()
	if why == api.OK && (n < 0 || n > most) {
		n, why = 0, api.ErrLong
	}
	b := a.take(size+n, why)
	if b == nil {
		return ""
	}
	return string(b[size:])
}

func (a *asker) flag() bool {
	why := api.OK
	if len(a.b) > 0 && a.b[0] > 1 {
		why = api.ErrForm
	}
	b := a.take(1, why)
	return b != nil && b[0] == 1
}

func (a *asker) command() api.Command {
	var c api.Command
	if c.Kind = a.num(); c.Kind != 0 {
		c.Client = a.num()
		c.Seq = a.num()
		c.Key = a.text(16)
		switch c.Kind {
		case 2:
			c.Value = a.text(64)
		case 4:
			c.Old = a.text(64)
			c.Value = a.text(64)
		case 5:
			c.End = a.text(16)
		}
	}
	if !isCommand(c) {
		a.fail(api.ErrForm)
	}
	return c
}

func (a *asker) attr() api.Attr {
	x := api.Attr{Seq: a.num()}
	for k := range x.Deps {
		x.Deps[k] = a.num()
	}
	if !isAttr(x) {
		a.fail(api.ErrForm)
	}
	return x
}

func (a *asker) cell() api.Cell {
	c := api.Cell{Status: a.num()}
	c.Promised.Epoch = a.num()
	c.Promised.Replica = a.num()
	if c.Status != 0 {
		c.Voted.Epoch = a.num()
		c.Voted.Replica = a.num()
		c.Cmd = a.command()
		c.Attr = a.attr()
		c.Same = a.flag()
	}
	if !isCell(c) {
		a.fail(api.ErrForm)
	}
	return c
}

// wanted is what Replay must answer, by P16.6's words.
func wanted(b []byte) (api.Inst, api.Cell, api.Errno) {
	a := asker{b: b}
	var i api.Inst
	i.Replica = a.num()
	i.Slot = a.num()
	c := a.cell()
	if len(a.b) > 0 {
		a.fail(api.ErrTail)
	}
	if !isInst(i) {
		a.fail(api.ErrForm)
	}
	if a.why != api.OK {
		return api.Inst{}, api.Cell{}, a.why
	}
	return i, c, api.OK
}

// entry is what a model knows of an instance.
type entry struct {
	i api.Inst
	c api.Cell
}

// model is a Log by the chapter's words: a list in the order in which its instances came.
type model struct {
	l   []entry
	cut api.Deps
}

// brought is a slot as P16.1 brings it in.
func brought(slot int) int {
	if slot < 0 {
		return 0
	}
	if slot > 1073741824 {
		return 1073741824
	}
	return slot
}

func modelOf(cut api.Deps) *model {
	m := &model{}
	for r, slot := range cut {
		m.cut[r] = brought(slot)
	}
	return m
}

func (m *model) gone(i api.Inst) bool { return isInst(i) && i.Slot <= m.cut[i.Replica] }

func (m *model) place(i api.Inst) int {
	return slices.IndexFunc(m.l, func(e entry) bool { return e.i == i })
}

func (m *model) cell(i api.Inst) (api.Cell, bool) {
	if k := m.place(i); k >= 0 {
		return m.l[k].c, true
	}
	return api.Cell{}, false
}

// refused tells by P16.3 whether c is refused where its is the cell that stands there.
func refused(its, c api.Cell) bool {
	if its.Status == 3 {
		if c.Status != 3 {
			return true
		}
		if c.Cmd != its.Cmd || c.Attr != its.Attr {
			return true
		}
	}
	if below(c.Promised, its.Promised) {
		return true
	}
	if below(c.Voted, its.Voted) {
		return true
	}
	return c.Status < its.Status && c.Voted == its.Voted
}

func (m *model) set(i api.Inst, c api.Cell) bool {
	if !isInst(i) || m.gone(i) || !isCell(c) {
		return false
	}
	k := m.place(i)
	if k < 0 {
		m.l = append(m.l, entry{i, c})
		return true
	}
	if refused(m.l[k].c, c) {
		return false
	}
	m.l[k].c = c
	return true
}

func (m *model) trim(upto api.Deps) {
	for r, slot := range upto {
		if brought(slot) > m.cut[r] {
			m.cut[r] = brought(slot)
		}
	}
	m.l = slices.DeleteFunc(m.l, func(e entry) bool { return m.gone(e.i) })
}

func (m *model) top() api.Deps {
	d := m.cut
	for _, e := range m.l {
		if e.i.Slot > d[e.i.Replica] {
			d[e.i.Replica] = e.i.Slot
		}
	}
	return d
}

func (m *model) list() []api.Inst {
	var l []api.Inst
	for _, e := range m.l {
		l = append(l, e.i)
	}
	slices.SortFunc(l, func(a, b api.Inst) int {
		if a.Replica == b.Replica {
			return a.Slot - b.Slot // right ones: there is room
		}
		return a.Replica - b.Replica
	})
	return l
}

// like tells of l where it isn't like m.
func like(t *testing.T, l *Log, m *model) {
	t.Helper()
	if l.Cut() != m.cut {
		t.Fatalf("Cut() = %d, not %d", l.Cut(), m.cut)
	}
	if l.Top() != m.top() {
		t.Fatalf("Top() = %d, not %d", l.Top(), m.top())
	}
	if got := l.List(); !slices.Equal(got, m.list()) {
		t.Fatalf("List() = %d, not %d", got, m.list())
	}
	for _, e := range m.l {
		if c, is := l.Cell(e.i); !is || c != e.c {
			t.Fatalf("Cell(%d) = %+v, %t; not %+v", e.i, c, is, e.c)
		}
	}
}

// empty tells of l where it isn't a Log of this cut and of no cells.
func empty(t *testing.T, l *Log, cut api.Deps) {
	t.Helper()
	like(t, l, &model{cut: cut})
}

// twins are two logs that tell the same, by all that can be told of them.
func twins(t *testing.T, a, b *Log) {
	t.Helper()
	m := &model{cut: a.Cut()}
	for _, i := range a.List() {
		c, _ := a.Cell(i)
		m.l = append(m.l, entry{i, c})
	}
	like(t, a, m)
	like(t, b, m)
}

// chance makes numbers that look like chance, the same ones at each run.
type chance uint64

func (c *chance) below(n int) int {
	*c = *c*6364136223846793005 + 1442695040888963407
	return int(uint64(*c) >> 33 % uint64(n))
}

// one answers one of these.
func one[T any](c *chance, of ...T) T { return of[c.below(len(of))] }
