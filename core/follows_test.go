package core

import (
	"slices"
	"testing"

	"concord/api"
	"concord/cmd"
	"concord/deps"
	"concord/letter"
	"concord/log"
)

// world is cores whose letters are lost, doubled and turned round, and whose power fails.
type world struct {
	t      *testing.T
	ch     *chance
	n      int
	cores  []*Core
	cut    []api.Deps
	disk   [][][]byte
	net    []api.Letter
	know   []map[api.Inst]api.Cell // what each one kept last
	chosen map[api.Inst]api.Cell   // what was committed anywhere, ever
	seq    [api.MaxOwner + 1]int
	seen   *census
}

// census is how often something came about: what holds of nothing says little.
type census struct{ fast, slow, nothing, again, recovered, clashes, crashes, trimmed, settled int }

func newWorld(t *testing.T, ch *chance, n int, seen *census) *world {
	w := &world{t: t, ch: ch, n: n, chosen: map[api.Inst]api.Cell{}, cut: make([]api.Deps, n), disk: make([][][]byte, n), seen: seen}
	for me := range n {
		w.cores = append(w.cores, made(t, n, me))
		w.know = append(w.know, map[api.Inst]api.Cell{})
	}
	return w
}

// command is one of few keys and clients; each number of a client is one command's.
func (w *world) command() api.Command {
	client := 1 + w.ch.below(3)
	w.seq[client]++
	x := put(client, w.seq[client], one(w.ch, "a", "b"))
	switch w.ch.below(6) {
	case 0:
		x = get(client, x.Seq, x.Key)
	case 1:
		x = api.Command{Kind: api.KRange, Client: client, Seq: x.Seq, Key: "a"}
	}
	return x
}

// drain keeps what r says, and sends it behind that.
func (w *world) drain(r int) {
	recs, letters := w.cores[r].Drain()
	w.keep(r, recs)
	for _, m := range letters {
		if !letter.Right(m) || m.From != r || m.To >= w.n {
			w.t.Fatalf("%d sends %+v", r, m)
		}
		if m.Kind == api.LPre && m.Ballot != zero() {
			w.seen.again++
		}
	}
	w.net = append(w.net, letters...)
}

// keep looks at each cell that was set, and keeps it.
func (w *world) keep(r int, recs [][]byte) {
	for _, s := range kept(w.t, recs) {
		if s.x.Status == api.Committed {
			w.choose(r, s.i, s.x)
		}
		w.know[r][s.i] = s.x
	}
	w.disk[r] = append(w.disk[r], recs...)
}

// choose looks whether what r commits is what was committed, and goes with all else that was.
func (w *world) choose(r int, i api.Inst, x api.Cell) {
	if was, is := w.chosen[i]; is {
		if x.Cmd != was.Cmd || x.Attr != was.Attr {
			w.t.Fatalf("at %d %d commits %+v, and %+v was", i, r, x, was)
		}
		return
	}
	for j, y := range w.chosen {
		if !cmd.Clash(x.Cmd, y.Cmd) {
			continue
		}
		w.seen.clashes++
		if !deps.Reach(x.Attr.Deps, j) && !deps.Reach(y.Attr.Deps, i) {
			w.t.Fatalf("neither %+v at %d nor %+v at %d reaches the other", x, i, y, j)
		}
	}
	w.chosen[i] = x
	was := w.know[r][i]
	switch {
	case x.Cmd == api.Command{}:
		w.seen.nothing++
	case x.Promised != zero():
		w.seen.recovered++
	case was.Status == api.Preaccepted:
		w.seen.fast++
	default:
		w.seen.slow++
	}
}

// crash lets the power of r fail: of what it was to keep some beginning is there, of what it was to send nothing. It starts again.
func (w *world) crash(r int) {
	recs, _ := w.cores[r].Drain()
	w.keep(r, recs[:w.ch.below(len(recs)+1)])
	w.cores[r] = w.twin(r)
	w.seen.crashes++
}

// twin is a core that is made of r's cut, and of what it kept.
func (w *world) twin(r int) *Core {
	c, why := New(w.n, r, w.cut[r], w.disk[r])
	if why != api.OK {
		w.t.Fatalf("New: %d", why)
	}
	return c
}

// trim forgets at r a part of what all have committed; now and then it keeps what is left, and no more.
func (w *world) trim(r int) {
	stable := w.cores[r].Cut()
	for k := range w.n {
		for w.ch.below(10) > 0 && w.allHave(at(k, stable[k]+1)) {
			stable[k]++
			w.seen.trimmed++
		}
	}
	w.cores[r].Trim(stable)
	w.cut[r] = stable
	if w.ch.below(2) == 0 {
		return
	}
	w.disk[r] = nil
	for _, i := range deps.List(w.cores[r].Top(), stable) {
		if x, is := w.cores[r].Cell(i); is {
			w.disk[r] = append(w.disk[r], log.Record(i, x))
		}
	}
}

func (w *world) allHave(i api.Inst) bool {
	for _, c := range w.cores {
		if x, _ := c.Cell(i); x.Status != api.Committed && !deps.Reach(c.Cut(), i) {
			return false
		}
	}
	return true
}

// deliver gives a letter on its way, one of the oldest; with failures it may be lost, or go again later.
func (w *world) deliver(fails bool) int {
	k := w.ch.below(min(len(w.net), 12))
	m := w.net[k]
	if !fails || w.ch.below(8) > 0 {
		w.net = slices.Delete(w.net, k, k+1)
	}
	if !fails || w.ch.below(9) > 0 {
		w.cores[m.To].Take(m)
	}
	return m.To
}

// step is something that may come about.
func (w *world) step(fails bool) {
	r := w.ch.below(w.n)
	switch kind := w.ch.below(100); {
	case kind < 3:
		w.cores[r].Propose(w.command())
	case kind < 8:
		w.cores[r].Tick()
	case kind < 10 && fails:
		top := w.cores[r].Top()
		k := w.ch.below(w.n)
		w.cores[r].Recover(at(k, max(1, top[k]+1-w.ch.below(4))))
	case kind == 10:
		w.trim(r)
	case len(w.net) > 0:
		r = w.deliver(fails)
	}
	if fails && w.ch.below(60) == 0 {
		w.crash(r)
	}
	w.drain(r)
}

// settle lets all letters go, and all tick, till each instance that is known of is committed everywhere.
func (w *world) settle() {
	for range 200 {
		for len(w.net) > 0 {
			w.drain(w.deliver(false))
		}
		top, settled := w.cores[0].Top(), true
		for _, c := range w.cores {
			top = deps.Join(api.Attr{Deps: top}, api.Attr{Deps: c.Top()}).Deps
		}
		for r, c := range w.cores {
			for _, i := range deps.List(top, c.Cut()) {
				if x, _ := c.Cell(i); x.Status != api.Committed {
					settled = false
					c.Want(i)
				}
			}
			c.Tick()
			w.drain(r)
		}
		if settled && len(w.net) == 0 {
			w.seen.settled++
			return
		}
	}
	w.t.Fatal("what is known of isn't committed everywhere")
}

func TestWorlds(t *testing.T) { // P18.8
	ch := chance(18)
	for _, n := range []int{3, 5, 7} {
		var seen census
		for k := range 40 {
			w := newWorld(t, &ch, n, &seen)
			for range 1500 {
				w.step(k%4 > 0)
			}
			w.settle()
		}
		least := census{fast: 100, slow: 100, nothing: 50, again: 200, recovered: 50, clashes: 5000, crashes: 500, trimmed: 300, settled: 40}
		if seen.fast < least.fast || seen.slow < least.slow || seen.nothing < least.nothing || seen.again < least.again || seen.recovered < least.recovered ||
			seen.clashes < least.clashes || seen.crashes < least.crashes || seen.trimmed < least.trimmed || seen.settled < least.settled {
			t.Errorf("%d: %+v: this says little", n, seen)
		}
	}
}

// twins looks whether a core that is made of what was kept is as it was, but for what it led and wished for.
func (w *world) twins(r int) {
	was, is := w.cores[r], w.twin(r)
	if was.Top() != is.Top() || was.Cut() != is.Cut() {
		w.t.Fatalf("Top() = %d, Cut() = %d, not %d, %d", is.Top(), is.Cut(), was.Top(), was.Cut())
	}
	quiet(w.t, is)
	busy(w.t, is, 0, 0)
	for _, i := range deps.List(was.Top(), api.Deps{}) {
		x, has := is.Cell(i)
		if y, had := was.Cell(i); x != y || has != had {
			w.t.Fatalf("Cell(%d) = %+v, %t, not %+v", i, x, has, y)
		}
	}
	// What another command would depend on is the same.
	if was.index.Len() != is.index.Len() || was.index.Cut() != is.index.Cut() {
		w.t.Fatalf("%d are known above %d, not %d above %d", is.index.Len(), is.index.Cut(), was.index.Len(), was.index.Cut())
	}
	for k, top := range was.Top() {
		for _, x := range []api.Command{put(8, 1, "a"), put(8, 1, "b"), get(1, 1, "a"), get(2, 1, "c"), get(3, 1, "c")} {
			for _, i := range []api.Inst{at(k, top+1), at(k, top), at(k, top/2)} {
				if a, b := was.index.Attr(i, x), is.index.Attr(i, x); a != b {
					w.t.Fatalf("at %d %+v depends on %+v, not %+v", i, x, b, a)
				}
			}
		}
	}
}

func TestACoreMadeOfWhatWasKeptIsAsItWas(t *testing.T) { // P18.8
	ch := chance(81)
	for _, n := range []int{3, 5, 7} {
		var seen census
		for range 20 {
			w := newWorld(t, &ch, n, &seen)
			for k := range 1000 {
				w.step(true)
				if k%20 == 0 {
					w.twins(w.ch.below(n))
				}
				// From here on all go on without what they led and wished for.
				if k == 800 {
					for r := range n {
						w.cores[r] = w.twin(r)
					}
				}
			}
			w.settle()
		}
		if seen.trimmed < 100 || seen.crashes < 200 || seen.recovered+seen.nothing < 20 {
			t.Errorf("%d: %+v: this says little", n, seen)
		}
	}
}

func TestWhatAnEarlierQuorumTookIsChosen(t *testing.T) { // P18.8: each who may recover it, of each who may be up
	for _, n := range []int{3, 5, 7} {
		slow := n/2 + 1
		for up := range 1 << n {
			var who []int
			for r := range n {
				if up>>r&1 == 1 {
					who = append(who, r)
				}
			}
			if len(who) < slow {
				continue
			}
			for _, by := range who {
				recoveredBy(t, n, who, by)
			}
		}
	}
}

// recoveredBy lets 0 commit by the fast path, whose LCommits are lost, and then one of those that are up recover it, with the others of these.
func recoveredBy(t *testing.T, n int, who []int, by int) {
	t.Helper()
	w := newWorld(t, nil, n, &census{})
	i, _ := w.cores[0].Propose(putA())
	w.drain(0)
	for k, m := range w.net {
		if k < n-2 { // all but the last one of them hear of it
			w.cores[m.To].Take(m)
		}
	}
	w.net = nil
	for r := 1; r < n; r++ {
		w.drain(r)
	}
	for _, m := range w.net {
		w.cores[0].Take(m)
	}
	w.drain(0)
	if x, _ := w.cores[0].Cell(i); x.Status != api.Committed {
		t.Fatalf("%d: 0 has %+v", n, x)
	}
	w.net = nil
	if w.cores[by].Recover(i) == (by == 0) {
		t.Fatalf("%d: Recover at %d", n, by)
	}
	w.drain(by)
	for len(w.net) > 0 {
		m := w.net[0]
		w.net = w.net[1:]
		if slices.Contains(who, m.To) {
			w.cores[m.To].Take(m)
			w.drain(m.To)
		}
	}
	for _, r := range who {
		// 0 tells nobody but the one who asks.
		if r != by && who[0] == 0 {
			continue
		}
		if x, _ := w.cores[r].Cell(i); x.Status != api.Committed || x.Cmd != putA() || x.Attr != attr(0) {
			t.Fatalf("%d, %d up: recovered by %d: %d has %+v", n, who, by, r, x)
		}
	}
}
