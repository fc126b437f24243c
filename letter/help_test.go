package letter

import (
	"encoding/binary"
	"encoding/hex"
	"math"
	"slices"
	"strings"
	"testing"

	"concord/api"
)

func at(replica, slot int) api.Inst { return api.Inst{Replica: replica, Slot: slot} }

func ballot(epoch, replica int) api.Ballot { return api.Ballot{Epoch: epoch, Replica: replica} }

// row is deps of these slots, and nought behind them.
func row(slots ...int) api.Deps {
	var d api.Deps
	copy(d[:], slots)
	return d
}

func attr(seq int, slots ...int) api.Attr { return api.Attr{Seq: seq, Deps: row(slots...)} }

// getA is a short command: 02 02 04 02 61.
func getA() api.Command {
	return api.Command{Kind: api.KGet, Client: 1, Seq: 2, Key: "a"}
}

// longest is the command with the most bytes.
func longest() api.Command {
	return api.Command{Kind: api.KSwap, Client: 8, Seq: 1 << 40, Key: strings.Repeat("k", 16), Old: strings.Repeat("\xfe", 64), Value: strings.Repeat("v", 64)}
}

// commands are right ones of each Kind, and the zero one.
func commands() []api.Command {
	return []api.Command{
		{}, getA(), longest(),
		{Kind: api.KPut, Client: 2, Seq: 1, Key: "\x00", Value: ""},
		{Kind: api.KDelete, Client: 8, Seq: 64, Key: "\xff"},
		{Kind: api.KRange, Client: 3, Seq: 9},
		{Kind: api.KRange, Client: 3, Seq: 9, Key: "c", End: "a"},
	}
}

// wrongCommands aren't right, each by another field.
func wrongCommands() []api.Command {
	return []api.Command{
		{Kind: 6, Client: 1, Seq: 1, Key: "a"}, {Kind: -1}, {Client: 1}, {Seq: 1}, {Key: "a"}, {Value: "v"},
		{Kind: 1, Client: 0, Seq: 1, Key: "a"}, {Kind: 1, Client: 9, Seq: 1, Key: "a"},
		{Kind: 1, Client: 1, Seq: 0, Key: "a"}, {Kind: 1, Client: 1, Seq: 1<<40 + 1, Key: "a"},
		{Kind: 1, Client: 1, Seq: 1}, {Kind: 1, Client: 1, Seq: 1, Key: strings.Repeat("k", 17)},
		{Kind: 2, Client: 1, Seq: 1, Key: "a", Value: strings.Repeat("v", 65)},
		{Kind: 1, Client: 1, Seq: 1, Key: "a", Value: "v"}, {Kind: 5, Client: 1, Seq: 1, Old: "o"},
	}
}

// wrongAttrs aren't right, each by another number.
func wrongAttrs() []api.Attr {
	l := []api.Attr{attr(-1), attr(1<<40 + 1), attr(math.MinInt), attr(math.MaxInt)}
	for k := range api.MaxNodes {
		for _, slot := range []int{-1, 1<<30 + 1, math.MinInt, math.MaxInt} {
			a := attr(1)
			a.Deps[k] = slot
			l = append(l, a)
		}
	}
	return l
}

// edges are numbers about each limit that a number of a letter has, and about where numbers end.
func edges() []int {
	return []int{
		math.MinInt, math.MinInt + 1, -1 << 32, -1 << 31, -7, -2, -1, 0, 1, 2, 3, 4, 5, 6, 7, 8, 10, 11, 12, 63, 64,
		1<<30 - 1, 1 << 30, 1<<30 + 1, 1 << 31, 1 << 32, 1<<32 + 1, 1<<40 - 1, 1 << 40, 1<<40 + 1, math.MaxInt - 1, math.MaxInt,
	}
}

// isInst is P6.1's Right.
func isInst(i api.Inst) bool {
	return slices.Contains([]int{0, 1, 2, 3, 4, 5, 6}, i.Replica) && i.Slot > 0 && i.Slot <= 1073741824
}

// isBallot is P6.2's RightBallot.
func isBallot(b api.Ballot) bool {
	return slices.Contains([]int{0, 1, 2, 3, 4, 5, 6}, b.Replica) && b.Epoch >= 0 && b.Epoch <= 1073741824
}

// isCommand is P5.1's Right.
func isCommand(c api.Command) bool {
	if c == (api.Command{}) {
		return true
	}
	if c.Client < 1 || c.Client > 8 || c.Seq < 1 || c.Seq > 1<<40 {
		return false
	}
	if len(c.Key) > 16 || len(c.End) > 16 || len(c.Old) > 64 || len(c.Value) > 64 {
		return false
	}
	switch c.Kind {
	case 1, 3:
		return c.Key != "" && c.End == "" && c.Old == "" && c.Value == ""
	case 2:
		return c.Key != "" && c.End == "" && c.Old == ""
	case 4:
		return c.Key != "" && c.End == ""
	case 5:
		return c.Old == "" && c.Value == ""
	}
	return false
}

// isRow asks that each slot is 0 to MaxSlot.
func isRow(d api.Deps) bool { return slices.Min(d[:]) >= 0 && slices.Max(d[:]) <= 1073741824 }

// isAttr is P7.1's Right.
func isAttr(a api.Attr) bool { return a.Seq >= 0 && a.Seq <= 1099511627776 && isRow(a.Deps) }

// isCell is P15.1, sentence by sentence.
func isCell(c api.Cell) bool {
	p, v := c.Promised, c.Voted
	switch {
	case !slices.Contains([]int{0, 1, 2, 3}, c.Status):
		return false
	case !isBallot(p) || !isBallot(v):
		return false
	case v.Epoch > p.Epoch || v.Epoch == p.Epoch && v.Replica > p.Replica:
		return false
	case !isCommand(c.Cmd) || !isAttr(c.Attr):
		return false
	case c.Same && !(c.Status == 1 && v.Epoch == 0 && v.Replica == 0):
		return false
	case c.Status == 0 && !(v == api.Ballot{} && c.Cmd == api.Command{} && c.Attr == api.Attr{}):
		return false
	}
	return true
}

// names tells what stands beside each Kind in package api, a letter a field: Inst, Ballot, Cmd, Attr, the cell (X), Deps, the text (S).
func names(kind int) string {
	all := []string{"", "IBCA", "IBA", "IBCA", "IB", "ICA", "IB", "IBX", "IB", "D", "S", "D"}
	if kind < 1 || kind >= len(all) {
		return ""
	}
	return all[kind]
}

// isLetter is P15.2, sentence by sentence.
func isLetter(m api.Letter) bool {
	has := func(field string) bool { return strings.Contains(names(m.Kind), field) }
	places := []int{0, 1, 2, 3, 4, 5, 6}
	switch {
	case m.Kind < 1 || m.Kind > 11:
		return false
	case !slices.Contains(places, m.From) || !slices.Contains(places, m.To) || m.From == m.To:
		return false
	case has("I") && !isInst(m.Inst) || !has("I") && m.Inst != api.Inst{}:
		return false
	case has("B") && !isBallot(m.Ballot) || !has("B") && m.Ballot != api.Ballot{}:
		return false
	case has("C") && !isCommand(m.Cmd) || !has("C") && m.Cmd != api.Command{}:
		return false
	case has("A") && !isAttr(m.Attr) || !has("A") && m.Attr != api.Attr{}:
		return false
	case has("X") && !isCell(m.Cell) || !has("X") && m.Cell != api.Cell{}:
		return false
	case has("D") && !isRow(m.Deps) || !has("D") && m.Deps != api.Deps{}:
		return false
	case has("S") && len(m.Data) > 16384 || !has("S") && m.Data != "":
		return false
	}
	return true
}

// unhex is the bytes whose digits these are, whatever blanks stand between.
func unhex(t *testing.T, s string) []byte {
	t.Helper()
	b, err := hex.DecodeString(strings.ReplaceAll(s, " ", ""))
	if err != nil {
		t.Fatal(err)
	}
	return b
}

// number is a number's bytes: the library's form of it is layer 3's.
func number(n int) []byte { return binary.AppendVarint(nil, int64(n)) }

func numbers(l ...int) []byte {
	var b []byte
	for _, n := range l {
		b = append(b, number(n)...)
	}
	return b
}

func text(s string) []byte { return slices.Concat(number(len(s)), []byte(s)) }

func flag(f bool) []byte {
	if f {
		return []byte{1}
	}
	return []byte{0}
}

// bytesOfCommand is P5.4, whether the command is right or not.
func bytesOfCommand(c api.Command) []byte {
	b := number(c.Kind)
	if c.Kind == 0 {
		return b
	}
	b = slices.Concat(b, numbers(c.Client, c.Seq), text(c.Key))
	switch c.Kind {
	case 2:
		b = append(b, text(c.Value)...)
	case 4:
		b = slices.Concat(b, text(c.Old), text(c.Value))
	case 5:
		b = append(b, text(c.End)...)
	}
	return b
}

// bytesOfAttr is P7.6.
func bytesOfAttr(a api.Attr) []byte { return append(number(a.Seq), numbers(a.Deps[:]...)...) }

// bytesOfCell is P15.3, whether the cell is right or not.
func bytesOfCell(c api.Cell) []byte {
	b := numbers(c.Status, c.Promised.Epoch, c.Promised.Replica)
	if c.Status == 0 {
		return b
	}
	return slices.Concat(b, numbers(c.Voted.Epoch, c.Voted.Replica), bytesOfCommand(c.Cmd), bytesOfAttr(c.Attr), flag(c.Same))
}

// bytesOf is P15.4, whether the letter is right or not.
func bytesOf(m api.Letter) []byte {
	b := numbers(m.Kind, m.From, m.To)
	for _, field := range names(m.Kind) {
		switch field {
		case 'I':
			b = append(b, numbers(m.Inst.Replica, m.Inst.Slot)...)
		case 'B':
			b = append(b, numbers(m.Ballot.Epoch, m.Ballot.Replica)...)
		case 'C':
			b = append(b, bytesOfCommand(m.Cmd)...)
		case 'A':
			b = append(b, bytesOfAttr(m.Attr)...)
		case 'X':
			b = append(b, bytesOfCell(m.Cell)...)
		case 'D':
			b = append(b, numbers(m.Deps[:]...)...)
		case 'S':
			b = append(b, text(m.Data)...)
		}
	}
	return b
}

// asker asks for what stands in bytes, by the words of layers 3, 5, 7 and 15.
type asker struct {
	b   []byte
	at  int
	why api.Errno
}

func (a *asker) fail(why api.Errno) {
	if a.why == api.OK {
		a.why = why
	}
}

// take is the next n bytes, unless they have this error.
func (a *asker) take(n int, why api.Errno) []byte {
	if why == api.OK && n > len(a.b)-a.at {
		why = api.ErrShort
	}
	a.fail(why)
	if a.why != api.OK {
		return nil
	}
	a.at += n
	return a.b[a.at-n : a.at]
}

// peek is the number that stands next, how many bytes it has, and its error.
func (a *asker) peek() (n, size int, why api.Errno) {
	for k, p := range a.b[a.at:] {
		if k > 0 && p == 0 || k == 9 && p > 1 {
			return 0, 0, api.ErrForm
		}
		if p < 128 {
			n, _ := binary.Varint(a.b[a.at : a.at+k+1])
			return int(n), k + 1, api.OK
		}
	}
	return 0, 0, api.ErrShort
}

func (a *asker) num() int {
	n, size, why := a.peek()
	if a.take(size, why) == nil {
		return 0
	}
	return n
}

func (a *asker) text(most int) string {
	n, size, why := a.peek()
	if why == api.OK && (n < 0 || n > most) {
		n, why = 0, api.ErrLong
	}
	b := a.take(size+n, why)
	if b == nil {
		return ""
	}
	return string(b[size:])
}

func (a *asker) flag() bool {
	why := api.OK
	if a.at < len(a.b) && a.b[a.at] > 1 {
		why = api.ErrForm
	}
	b := a.take(1, why)
	return b != nil && b[0] == 1
}

func (a *asker) ballot() api.Ballot {
	var b api.Ballot
	b.Epoch = a.num()
	b.Replica = a.num()
	return b
}

func (a *asker) row() api.Deps {
	var d api.Deps
	for k := range d {
		d[k] = a.num()
	}
	return d
}

func (a *asker) command() api.Command {
	var c api.Command
	if c.Kind = a.num(); c.Kind != 0 {
		c.Client = a.num()
		c.Seq = a.num()
		c.Key = a.text(16)
		switch c.Kind {
		case 2:
			c.Value = a.text(64)
		case 4:
			c.Old = a.text(64)
			c.Value = a.text(64)
		case 5:
			c.End = a.text(16)
		}
	}
	if !isCommand(c) {
		a.fail(api.ErrForm)
	}
	if a.why != api.OK {
		return api.Command{}
	}
	return c
}

func (a *asker) attr() api.Attr {
	x := api.Attr{Seq: a.num()}
	x.Deps = a.row()
	if !isAttr(x) {
		a.fail(api.ErrForm)
	}
	if a.why != api.OK {
		return api.Attr{}
	}
	return x
}

func (a *asker) cell() api.Cell {
	c := api.Cell{Status: a.num()}
	c.Promised = a.ballot()
	if c.Status != 0 {
		c.Voted = a.ballot()
		c.Cmd = a.command()
		c.Attr = a.attr()
		c.Same = a.flag()
	}
	if !isCell(c) {
		a.fail(api.ErrForm)
	}
	if a.why != api.OK {
		return api.Cell{}
	}
	return c
}

// wanted is what Get must answer, by P15.5's words.
func wanted(b []byte) (api.Letter, api.Errno) {
	a := asker{b: b}
	m := api.Letter{Kind: a.num()}
	m.From = a.num()
	m.To = a.num()
	if a.why == api.OK && names(m.Kind) == "" {
		return api.Letter{}, api.ErrForm
	}
	for _, field := range names(m.Kind) {
		switch field {
		case 'I':
			m.Inst.Replica = a.num()
			m.Inst.Slot = a.num()
		case 'B':
			m.Ballot = a.ballot()
		case 'C':
			m.Cmd = a.command()
		case 'A':
			m.Attr = a.attr()
		case 'X':
			m.Cell = a.cell()
		case 'D':
			m.Deps = a.row()
		case 'S':
			m.Data = a.text(16384)
		}
	}
	if a.why == api.OK && a.at < len(b) {
		a.why = api.ErrTail
	}
	if a.why == api.OK && !isLetter(m) {
		a.why = api.ErrForm
	}
	if a.why != api.OK {
		return api.Letter{}, a.why
	}
	return m, api.OK
}

// chance makes numbers that look like chance, the same ones at each run.
type chance uint64

func (c *chance) below(n int) int {
	*c = *c*6364136223846793005 + 1442695040888963407
	return int(uint64(*c) >> 33 % uint64(n))
}

// one answers one of these.
func one[T any](c *chance, of ...T) T { return of[c.below(len(of))] }

// ballot is a right one.
func (c *chance) ballot() api.Ballot {
	return ballot(one(c, 0, 0, 1, 2, 63, 64, 1<<30-1, 1<<30), c.below(7))
}

// row is one of right slots.
func (c *chance) row() api.Deps {
	var d api.Deps
	for k := range d {
		d[k] = one(c, 0, 0, 1, 5, 63, 64, 1<<30-1, 1<<30)
	}
	return d
}

// attr is a right one.
func (c *chance) attr() api.Attr {
	return api.Attr{Seq: one(c, 0, 1, 63, 64, 1<<40-1, 1<<40), Deps: c.row()}
}

// cell is a right one.
func (c *chance) cell() api.Cell {
	x := api.Cell{Status: c.below(4), Promised: c.ballot(), Voted: c.ballot(), Cmd: one(c, commands()...), Attr: c.attr()}
	p, v := x.Promised, x.Voted
	if v.Epoch > p.Epoch || v.Epoch == p.Epoch && v.Replica > p.Replica {
		x.Promised, x.Voted = v, p
	}
	if c.below(3) == 0 {
		x.Voted = api.Ballot{}
	}
	if x.Status == 0 {
		return api.Cell{Promised: x.Promised}
	}
	x.Same = x.Status == 1 && x.Voted == api.Ballot{} && c.below(2) == 0
	return x
}

// letter is a right one.
func (c *chance) letter() api.Letter {
	m := api.Letter{Kind: 1 + c.below(11), From: c.below(7)}
	m.To = (m.From + 1 + c.below(6)) % 7
	for _, field := range names(m.Kind) {
		switch field {
		case 'I':
			m.Inst = at(c.below(7), one(c, 1, 2, 63, 64, 1<<30-1, 1<<30))
		case 'B':
			m.Ballot = c.ballot()
		case 'C':
			m.Cmd = one(c, commands()...)
		case 'A':
			m.Attr = c.attr()
		case 'X':
			m.Cell = c.cell()
		case 'D':
			m.Deps = c.row()
		case 'S':
			m.Data = strings.Repeat(one(c, "d", "\x00", "\xff"), one(c, 0, 1, 63, 64, 200))
		}
	}
	return m
}
