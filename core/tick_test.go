package core

import (
	"slices"
	"testing"

	"concord/api"
)

func TestRecover(t *testing.T) { // P18.4
	i, a := at(2, 3), attr(2, 0, 0, 2)
	for _, v := range []struct {
		was *api.Cell
		now api.Cell
	}{
		{nil, promised(ballot(1, 1))},
		{of(promised(ballot(4, 0))), promised(ballot(5, 1))},
		{of(promised(ballot(4, 6))), promised(ballot(5, 1))},
		{of(promised(ballot(1<<30-1, 6))), promised(ballot(1<<30, 1))},
		{of(same(zero(), putA(), a)), same(ballot(1, 1), putA(), a)},
		{of(pre(ballot(2, 2), ballot(1, 0), putA(), a)), pre(ballot(3, 1), ballot(1, 0), putA(), a)},
		{of(accepted(ballot(2, 2), ballot(2, 2), putA(), a)), accepted(ballot(3, 1), ballot(2, 2), putA(), a)},
	} {
		for _, n := range []int{3, 5, 7} {
			var l []stand
			if v.was != nil {
				l = append(l, stand{i, *v.was})
			}
			c := madeOf(t, n, 1, row(0, 0, 2), l...)
			if !c.Recover(i) {
				t.Errorf("Recover of %+v = false", v.was)
			}
			drained(t, c, []stand{{i, v.now}}, all(n, lPrepare(1, 0, i, v.now.Promised)))
			busy(t, c, 1, 0)
			// Its own cell is said: one less than half of the others is enough.
			if n == 3 && v.was == nil {
				takes(t, c, lPrepared(0, 1, i, v.now.Promised, v.now))
				if x, _ := c.Cell(i); x.Status != api.Accepted {
					t.Errorf("%+v", x)
				}
			}
		}
	}
}

// refusedRecover looks whether i isn't recovered, and nothing is changed.
func refusedRecover(t *testing.T, what string, c *Core, i api.Inst) {
	t.Helper()
	c.Drain()
	leads, wishes := c.Busy()
	was, is := c.Cell(i)
	if c.Recover(i) {
		t.Errorf("%s: Recover(%d) = true", what, i)
	}
	quiet(t, c)
	busy(t, c, leads, wishes)
	if x, has := c.Cell(i); x != was || is != has {
		t.Errorf("%s: at %d %+v came to %+v", what, i, was, x)
	}
}

func TestRecoverRefuses(t *testing.T) { // P18.4
	for _, n := range []int{3, 5, 7} {
		for _, r := range edges() {
			for _, slot := range edges() {
				i := at(r, slot)
				c := madeOf(t, n, 1, row(2, 2, 2, 2, 2, 2, 2))
				if r < 0 || r >= n || slot < 3 || slot > 1<<30 {
					refusedRecover(t, "none of the cluster's, or gone", c, i)
				} else if !c.Recover(i) {
					t.Errorf("%d: Recover(%d) = false", n, i)
				}
			}
		}
	}
	i := at(2, 3)
	refusedRecover(t, "committed", madeOf(t, 3, 1, row(), stand{i, committed(ballot(1, 1), zero(), putA(), attr(0))}), i)
	for r := range 7 {
		refusedRecover(t, "the last ballot", madeOf(t, 3, 1, row(), stand{i, promised(ballot(1<<30, r))}), i)
	}
	// What is led goes on to be led, where no ballot is left to recover it at.
	c := madeOf(t, 3, 1, row(), stand{i, promised(ballot(1<<30-1, 0))})
	if !c.Recover(i) {
		t.Error("Recover = false")
	}
	refusedRecover(t, "the last ballot is its own", c, i)
	takes(t, c, lPrepared(0, 1, i, ballot(1<<30, 1), promised(ballot(1<<30, 1))))
	if x, _ := c.Cell(i); x.Status != api.Accepted {
		t.Errorf("%+v", x)
	}
}

func TestRecoverLeadsSoManyAtMost(t *testing.T) { // P18.4
	c := made(t, 3, 1)
	for slot := 1; slot <= 256; slot++ {
		if !c.Recover(at(0, slot)) {
			t.Fatalf("%d: Recover = false", slot)
		}
	}
	refusedRecover(t, "256 are led", c, at(0, 257))
	refusedPropose(t, "256 are led", c, putA())
	// What is led may be recovered again, at a later ballot.
	if !c.Recover(at(0, 256)) {
		t.Error("Recover of what is led = false")
	}
	drained(t, c, []stand{{at(0, 256), promised(ballot(2, 1))}}, all(3, lPrepare(1, 0, at(0, 256), ballot(2, 1))))
	busy(t, c, 256, 0)
	takes(t, c, lCommit(0, 1, at(0, 7), putA(), attr(0)))
	busy(t, c, 255, 0)
	if !c.Recover(at(0, 257)) {
		t.Error("Recover = false")
	}
}

func TestRecoverOfWhatIsLedBeginsAnew(t *testing.T) { // P18.4
	c := made(t, 5, 1)
	i, _ := c.Propose(putA())
	takes(t, c, lPreOK(0, 1, i, zero(), attr(0)), lPreOK(2, 1, i, zero(), attr(0)))
	c.Tick()
	c.Drain()
	b := ballot(1, 1)
	if !c.Recover(i) {
		t.Fatal("Recover = false")
	}
	drained(t, c, []stand{{i, same(b, putA(), attr(0))}}, all(5, lPrepare(1, 0, i, b)))
	busy(t, c, 1, 0)
	// Who had answered the proposal hasn't answered this; its replies are none.
	takes(t, c, lPreOK(4, 1, i, zero(), attr(0)), lPreOK(4, 1, i, b, attr(0)))
	quiet(t, c)
	// Its ticks begin anew.
	for range 3 {
		c.Tick()
		quiet(t, c)
	}
	c.Tick()
	drained(t, c, nil, all(5, lPrepare(1, 0, i, b)))
	step(t, c, []api.Letter{lPrepared(0, 1, i, b, same(b, putA(), attr(0)))}, lPrepared(2, 1, i, b, promised(b)),
		[]stand{{i, pre(b, b, putA(), attr(0))}}, all(5, lPre(1, 0, i, b, putA(), attr(0))))
}

func TestWant(t *testing.T) { // P18.5
	for _, n := range []int{3, 5, 7} {
		for _, r := range edges() {
			for _, slot := range edges() {
				c := madeOf(t, n, 1, row(2, 2, 2, 2, 2, 2, 2))
				may := r >= 0 && r < n && slot >= 3 && slot <= 1<<30
				if c.Want(at(r, slot)) != may {
					t.Errorf("%d: Want(%d %d) = %t", n, r, slot, !may)
				}
				quiet(t, c)
				if may {
					busy(t, c, 0, 1)
				} else {
					busy(t, c, 0, 0)
				}
				if c.Want(at(r, slot)) {
					t.Errorf("%d: Want(%d %d) again = true", n, r, slot)
				}
			}
		}
	}
	i := at(2, 3)
	for _, x := range []api.Cell{promised(ballot(1, 1)), same(zero(), putA(), attr(0)), accepted(zero(), zero(), putA(), attr(0))} {
		c := madeOf(t, 3, 1, row(), stand{i, x})
		if !c.Want(i) {
			t.Errorf("Want of %+v = false", x)
		}
		busy(t, c, 0, 1)
	}
	c := madeOf(t, 3, 1, row(), stand{i, committed(zero(), zero(), putA(), attr(0))})
	if c.Want(i) {
		t.Error("Want of what is committed = true")
	}
	busy(t, c, 0, 0)
	// What is led may be wished for.
	c = made(t, 3, 1)
	c.Recover(i)
	if !c.Want(i) {
		t.Error("Want of what is led = false")
	}
	busy(t, c, 1, 1)
}

func TestWantSoManyAtMost(t *testing.T) { // P18.5
	c := made(t, 3, 1)
	for slot := 1; slot <= 256; slot++ {
		if !c.Want(at(2, slot)) {
			t.Fatalf("%d: Want = false", slot)
		}
	}
	if c.Want(at(2, 257)) || c.Want(at(2, 256)) {
		t.Error("Want = true")
	}
	busy(t, c, 0, 256)
	// A wish goes by a Tick, not by what is committed alone.
	takes(t, c, lCommit(0, 1, at(2, 9), putA(), attr(0)))
	c.Drain()
	busy(t, c, 0, 256)
	if c.Want(at(2, 257)) {
		t.Error("Want = true")
	}
	c.Tick()
	quiet(t, c)
	busy(t, c, 0, 255)
	if !c.Want(at(2, 257)) || c.Want(at(2, 258)) {
		t.Error("not one Want")
	}
}

// ticks lets so many ticks go by, in each of which nothing is kept or sent.
func ticks(t *testing.T, c *Core, times int) {
	t.Helper()
	for k := range times {
		c.Tick()
		if recs, send := c.Drain(); len(recs) != 0 || len(send) != 0 {
			t.Fatalf("behind %d ticks: %+v, %+v", k+1, kept(t, recs), send)
		}
	}
}

// without are the letters but those to these.
func without(l []api.Letter, to ...int) []api.Letter {
	return slices.DeleteFunc(slices.Clone(l), func(m api.Letter) bool { return slices.Contains(to, m.To) })
}

func TestTickAsksAgain(t *testing.T) { // P18.6
	c := proposing(t, 5)
	i := one1()
	asks := all(5, lPre(1, 0, i, zero(), putA(), attr(0)))
	for range 3 {
		ticks(t, c, 3)
		c.Tick()
		drained(t, c, nil, asks)
	}
	// Who has answered isn't asked again.
	takes(t, c, lPreOK(3, 1, i, zero(), attr(2, 6)))
	ticks(t, c, 3)
	c.Tick()
	drained(t, c, nil, without(asks, 3))
	// Late, more than half is enough; its ticks begin anew.
	ticks(t, c, 2)
	takes(t, c, lPreOK(0, 1, i, zero(), attr(0)))
	ticks(t, c, 1)
	c.Tick()
	a := attr(2, 6)
	asks = all(5, lAccept(1, 0, i, zero(), putA(), a))
	drained(t, c, []stand{{i, accepted(zero(), zero(), putA(), a)}}, asks)
	ticks(t, c, 3)
	c.Tick()
	drained(t, c, nil, asks)
	takes(t, c, lAcceptOK(4, 1, i, zero()))
	ticks(t, c, 3)
	c.Tick()
	drained(t, c, nil, without(asks, 4))
	busy(t, c, 1, 0)
	takes(t, c, lAcceptOK(0, 1, i, zero()))
	c.Drain()
	ticks(t, c, 9)
	busy(t, c, 0, 0)
}

func TestTickPreparesAgain(t *testing.T) { // P18.6
	c := made(t, 5, 1)
	i, b := at(3, 7), ballot(1, 1)
	c.Recover(i)
	c.Drain()
	asks := all(5, lPrepare(1, 0, i, b))
	takes(t, c, lPrepared(4, 1, i, b, same(b, putA(), attr(0))))
	for range 3 {
		ticks(t, c, 3)
		c.Tick()
		drained(t, c, nil, without(asks, 4))
	}
	ticks(t, c, 3)
	takes(t, c, lPrepared(2, 1, i, b, promised(b)))
	a := attr(0)
	asks = all(5, lPre(1, 0, i, b, putA(), attr(0, 0, 0, 0, 6)))
	a.Deps[3] = 6
	drained(t, c, []stand{{i, pre(b, b, putA(), a)}}, asks)
	// It proposes now, for no ticks: late or not, more than half is enough at its ballot.
	takes(t, c, lPreOK(2, 1, i, b, attr(0)))
	ticks(t, c, 3)
	c.Tick()
	drained(t, c, nil, without(asks, 2))
}

func TestTickIsLateForAProposalOfThree(t *testing.T) { // P18.6
	c := proposing(t, 3)
	i := one1()
	takes(t, c, lPreOK(0, 1, i, zero(), attr(1, 1)))
	ticks(t, c, 3)
	c.Tick()
	drained(t, c, []stand{{i, accepted(zero(), zero(), putA(), attr(1, 1))}}, all(3, lAccept(1, 0, i, zero(), putA(), attr(1, 1))))
	// Where it is too early, the same comes at the next time.
	c = proposing(t, 3)
	ticks(t, c, 3)
	c.Tick()
	drained(t, c, nil, all(3, lPre(1, 0, i, zero(), putA(), attr(0))))
	takes(t, c, lPreOK(2, 1, i, zero(), attr(1, 1)))
	ticks(t, c, 3)
	c.Tick()
	drained(t, c, []stand{{i, accepted(zero(), zero(), putA(), attr(1, 1))}}, all(3, lAccept(1, 0, i, zero(), putA(), attr(1, 1))))
}

func TestTickGoesByRisingInstances(t *testing.T) { // P18.6
	c := made(t, 3, 1)
	l := []api.Inst{at(0, 2), at(0, 10), at(2, 1), at(2, 3)}
	for _, k := range []int{2, 1, 3, 0} {
		c.Recover(l[k])
	}
	i, _ := c.Propose(putA())
	takes(t, c, lPreOK(2, 1, i, zero(), attr(3)))
	c.Drain()
	ticks(t, c, 3)
	c.Tick()
	b := ballot(1, 1)
	drained(t, c, []stand{{i, accepted(zero(), zero(), putA(), attr(3))}}, slices.Concat(
		all(3, lPrepare(1, 0, l[0], b)), all(3, lPrepare(1, 0, l[1], b)),
		all(3, lAccept(1, 0, i, zero(), putA(), attr(3))),
		all(3, lPrepare(1, 0, l[2], b)), all(3, lPrepare(1, 0, l[3], b))))
	// Each has its own ticks.
	c = made(t, 3, 1)
	c.Recover(l[0])
	c.Drain()
	ticks(t, c, 2)
	c.Recover(l[1])
	c.Drain()
	ticks(t, c, 1)
	c.Tick()
	drained(t, c, nil, all(3, lPrepare(1, 0, l[0], b)))
	ticks(t, c, 1)
	c.Tick()
	drained(t, c, nil, all(3, lPrepare(1, 0, l[1], b)))
}

func TestTickWantsWhatIsNotCommitted(t *testing.T) { // P18.6
	l := []stand{
		{at(0, 4), promised(ballot(1, 0))},
		{at(1, 2), same(zero(), putA(), attr(0))}, // its own, as it was started again
		{at(2, 1), accepted(zero(), zero(), putB(), attr(0))},
		{at(2, 2), committed(zero(), zero(), putB(), attr(0))},
		{at(3, 1), same(zero(), putA(), attr(0))}, // nobody's
	}
	c := madeOf(t, 3, 1, row(), l...)
	i, _ := c.Propose(putA())
	c.Recover(at(2, 7))
	c.Drain()
	ticks(t, c, 1)
	busy(t, c, 2, 3)
	for _, w := range []struct {
		i    api.Inst
		want bool
	}{{at(0, 4), false}, {at(1, 2), false}, {at(2, 1), false}, {at(2, 2), false}, {i, true}, {at(2, 7), true}, {at(0, 3), true}} {
		if c.Want(w.i) != w.want {
			t.Errorf("Want(%d) = %t", w.i, !w.want)
		}
	}
}

func TestTickWantsInOrder(t *testing.T) { // P18.6
	c := made(t, 3, 1)
	for slot := 1; slot <= 254; slot++ {
		c.Want(at(1, slot))
	}
	for _, i := range []api.Inst{at(2, 1), at(0, 9), at(2, 2), at(0, 3)} {
		takes(t, c, lPrepare(2, 1, i, ballot(1, 2)))
	}
	c.Drain()
	ticks(t, c, 1)
	busy(t, c, 0, 256)
	// Those two that stand ahead are wished for. Some others go by and by, and then these are, too.
	for slot := 1; slot <= 4; slot++ {
		takes(t, c, lCommit(2, 1, at(1, slot), putA(), attr(0)))
	}
	c.Drain()
	c.Tick() // here they go
	busy(t, c, 0, 252)
	for _, i := range []api.Inst{at(0, 3), at(0, 9)} {
		if c.Want(i) {
			t.Errorf("%d wasn't wished for", i)
		}
	}
	for _, i := range []api.Inst{at(2, 1), at(2, 2)} {
		if !c.Want(i) {
			t.Errorf("%d was wished for", i)
		}
	}
}

func TestTickRecovers(t *testing.T) { // P18.6
	for _, n := range []int{3, 5, 7} {
		for me := range n {
			for owner := range n {
				turn := 0
				for (owner+turn)%n != me {
					turn++
				}
				i, b := at(owner, 4), ballot(1, me)
				c := made(t, n, me)
				if !c.Want(i) {
					t.Fatal("Want = false")
				}
				ticks(t, c, 12+6*turn-1)
				busy(t, c, 0, 1)
				c.Tick()
				drained(t, c, []stand{{i, promised(b)}}, all(n, lPrepare(me, 0, i, b)))
				busy(t, c, 1, 1)
			}
		}
	}
}

func TestAWishWaitsWhileItIsLed(t *testing.T) { // P18.6
	c := made(t, 3, 1)
	i := at(0, 4) // 18 ticks
	c.Want(i)
	ticks(t, c, 10)
	c.Recover(i)
	c.Drain()
	for k := 1; k <= 40; k++ {
		c.Tick()
		recs, send := c.Drain()
		if want := k%4 == 0; len(recs) != 0 || (len(send) != 0) != want {
			t.Fatalf("behind %d ticks: %+v", k, send)
		}
	}
	// Another one leads it now: the wish goes on where it stood.
	takes(t, c, lPrepare(2, 1, i, ballot(5, 2)))
	c.Drain()
	busy(t, c, 0, 1)
	ticks(t, c, 7)
	c.Tick()
	drained(t, c, []stand{{i, promised(ballot(6, 1))}}, all(3, lPrepare(1, 0, i, ballot(6, 1))))
	// It was recovered by a tick: the next time all of them must go by again.
	takes(t, c, lPrepare(2, 1, i, ballot(7, 2)))
	c.Drain()
	ticks(t, c, 17)
	c.Tick()
	drained(t, c, []stand{{i, promised(ballot(8, 1))}}, all(3, lPrepare(1, 0, i, ballot(8, 1))))
}

func TestLNoLetsAWishWaitAgain(t *testing.T) { // P18.3, P18.6
	c := made(t, 3, 1)
	i := at(0, 4) // 18 ticks
	c.Want(i)
	ticks(t, c, 17)
	c.Recover(i)
	takes(t, c, lNo(2, 1, i, ballot(5, 2)))
	c.Drain()
	busy(t, c, 0, 1)
	ticks(t, c, 17)
	c.Tick()
	drained(t, c, []stand{{i, promised(ballot(6, 1))}}, all(3, lPrepare(1, 0, i, ballot(6, 1))))
	// So does one that comes with it.
	c = made(t, 3, 1)
	i, _ = c.Propose(putA())
	takes(t, c, lNo(2, 1, i, ballot(2, 0)))
	c.Drain()
	ticks(t, c, 11)
	c.Tick()
	drained(t, c, []stand{{i, same(ballot(3, 1), putA(), attr(0))}}, all(3, lPrepare(1, 0, i, ballot(3, 1))))
}

func TestAWishGoes(t *testing.T) { // P18.6
	c := made(t, 3, 1)
	i, j := at(0, 4), at(0, 5)
	c.Want(i)
	c.Want(j)
	ticks(t, c, 16)
	takes(t, c, lCommit(2, 1, i, putA(), attr(0)))
	c.Drain()
	busy(t, c, 0, 2)
	ticks(t, c, 1)
	busy(t, c, 0, 1)
	c.Tick()
	drained(t, c, []stand{{j, promised(ballot(1, 1))}}, all(3, lPrepare(1, 0, j, ballot(1, 1))))
	// Trimmed ones are no more at once.
	c.Want(at(0, 7))
	c.Trim(row(7))
	busy(t, c, 0, 0)
	ticks(t, c, 30)
}

func TestAWishWaitsForRoom(t *testing.T) { // P18.6
	c := made(t, 3, 1)
	for k := range 256 {
		c.Propose(put(1, k+1, "a"))
	}
	c.Drain()
	i := at(0, 4) // 18 ticks
	c.Want(i)
	for range 30 {
		c.Tick()
		if recs, _ := c.Drain(); len(recs) != 0 {
			t.Fatalf("%d are kept", len(recs))
		}
	}
	busy(t, c, 256, 1)
	takes(t, c, lCommit(0, 1, at(1, 9), putA(), attr(0)))
	c.Drain()
	busy(t, c, 255, 1)
	c.Tick()
	drained(t, c, []stand{{i, promised(ballot(1, 1))}}, all(3, lPrepare(1, 0, i, ballot(1, 1))))
	busy(t, c, 256, 1)
}

func TestAWishWithoutABallotLeft(t *testing.T) { // P18.6
	i := at(1, 4) // 12 ticks
	c := madeOf(t, 3, 1, row(), stand{i, promised(ballot(1<<30, 0))})
	ticks(t, c, 40)
	busy(t, c, 0, 1)
}

func TestTickRecoversInOrder(t *testing.T) { // P18.6
	c := made(t, 3, 1)
	for k := range 254 {
		c.Propose(put(1, k+1, "a"))
	}
	l := []api.Inst{at(0, 5), at(0, 3), at(0, 11)}
	for _, i := range l {
		c.Want(i)
	}
	for range 17 {
		c.Tick()
	}
	c.Drain()
	c.Tick()
	b := ballot(1, 1)
	drained(t, c, []stand{{l[1], promised(b)}, {l[0], promised(b)}}, slices.Concat(all(3, lPrepare(1, 0, l[1], b)), all(3, lPrepare(1, 0, l[0], b))))
	busy(t, c, 256, 3)
}

func TestTickAsksAheadOfRecovering(t *testing.T) { // P18.6
	c := made(t, 3, 1)
	c.Want(at(0, 1))
	ticks(t, c, 14)
	i, _ := c.Propose(putA())
	c.Drain()
	ticks(t, c, 3)
	c.Tick()
	drained(t, c, []stand{{at(0, 1), promised(ballot(1, 1))}}, append(all(3, lPre(1, 0, i, zero(), putA(), attr(0))), all(3, lPrepare(1, 0, at(0, 1), ballot(1, 1)))...))
}

func TestWhatIsWantedByATickTicksAtOnce(t *testing.T) { // P18.6
	i := at(0, 4) // 18 ticks
	c := madeOf(t, 3, 1, row(), stand{i, same(zero(), putA(), attr(0, 3))})
	ticks(t, c, 17)
	c.Tick()
	drained(t, c, []stand{{i, same(ballot(1, 1), putA(), attr(0, 3))}}, all(3, lPrepare(1, 0, i, ballot(1, 1))))
}
