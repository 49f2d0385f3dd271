package stamps_test

import (
	"math"
	"testing"

	"stamps/api"
	"stamps/stamps"
)

func TestP5WorkedDesk(t *testing.T) {
	d := newDesk(t, lease(2, 100, 200), 5)
	checkNext(t, d, 97, joined(100, 2, 0))
	checkNoNext(t, d, 94, api.ErrClock)
	checkNext(t, d, 96, joined(100, 2, 1))
	checkNext(t, d, 150, joined(150, 2, 0))
	checkNext(t, d, 145, joined(150, 2, 1))
	checkNoNext(t, d, 144, api.ErrClock)
	checkNoNext(t, d, 200, api.ErrSpent)
	checkNext(t, d, 199, joined(199, 2, 0))
	checkGiven(t, d, 5)
}

func TestP5SeqsRunOutAndTheNextTimeIsBorrowed(t *testing.T) {
	d := newDesk(t, lease(1023, 7, 100), 2)
	for time := 7; time <= 9; time++ {
		for seq := range api.Seqs {
			checkNext(t, d, 7, joined(time, 1023, seq))
		}
	}
	checkNoNext(t, d, 7, api.ErrClock)
	checkNext(t, d, 8, joined(10, 1023, 0))
	checkNoNext(t, d, 7, api.ErrClock)
	checkNext(t, d, 10, joined(10, 1023, 1))
	checkNext(t, d, 11, joined(11, 1023, 0))
	checkGiven(t, d, 3*api.Seqs+3)
}

// The time behind a full one is one that the clock may reach by itself.
func TestP5ClockReachesTheTimeBehindAFullOne(t *testing.T) {
	d := newDesk(t, lease(1, 0, 100), 0)
	checkBatch(t, d, 5, api.Seqs, api.Parts{Time: 5, Node: 1})
	checkNoNext(t, d, 5, api.ErrClock)
	checkNext(t, d, 6, joined(6, 1, 0))
	checkBatch(t, d, 6, api.Seqs-1, api.Parts{Time: 6, Node: 1, Seq: 1})
	checkNext(t, d, 8, joined(8, 1, 0))
}

func TestP5LeastAndGreatestClocks(t *testing.T) {
	for _, borrow := range []int{0, 1, api.MaxBorrow} {
		for _, l := range []api.Lease{lease(0, 0, 1), lease(5, 100, 200), lease(5, 0, api.MaxTime), lease(5, api.MaxTime-1, api.MaxTime)} {
			d := newDesk(t, l, borrow)
			checkFarClocks(t, d, l)
			checkNext(t, d, l.From, joined(l.From, l.Node, 0))
			checkFarClocks(t, d, l)
			checkBatch(t, d, l.From, api.Seqs-1, api.Parts{Time: l.From, Node: l.Node, Seq: 1})
			checkGiven(t, d, api.Seqs)
		}
	}
}

func checkFarClocks(t *testing.T, d *stamps.Desk, l api.Lease) {
	t.Helper()
	for _, now := range []int{math.MaxInt, math.MaxInt - 1, math.MaxInt - api.MaxBorrow, 1 << 62, api.MaxTime + 1, api.MaxTime, l.To} {
		checkNoNext(t, d, now, api.ErrSpent)
		checkNoBatch(t, d, now, 1, api.ErrSpent)
		checkNoBatch(t, d, now, api.MaxBatch, api.ErrSpent)
	}
	for _, now := range []int{math.MinInt, math.MinInt + 1, math.MinInt + api.MaxBorrow, -1 << 62, -api.MaxTime, -api.MaxBorrow - 1} {
		checkNoNext(t, d, now, api.ErrClock)
		checkNoBatch(t, d, now, 1, api.ErrClock)
		checkNoBatch(t, d, now, api.MaxBatch, api.ErrClock)
	}
}

func TestP5ClockGoesBack(t *testing.T) {
	d := newDesk(t, lease(4, 0, api.MaxTime), api.MaxBorrow)
	checkNext(t, d, 5000, joined(5000, 4, 0))
	checkNext(t, d, 4999, joined(5000, 4, 1))
	checkNext(t, d, 4000, joined(5000, 4, 2))
	checkNoNext(t, d, 3999, api.ErrClock)
	checkNext(t, d, 5001, joined(5001, 4, 0))
	checkNoNext(t, d, 4000, api.ErrClock)
	checkBatch(t, d, 4001, 7, api.Parts{Time: 5001, Node: 4, Seq: 1})
	checkNext(t, d, 5000, joined(5001, 4, 8))
}

func TestP5BorrowOfNothingAndOfMost(t *testing.T) {
	none := newDesk(t, lease(4, 2000, 3000), 0)
	checkNoNext(t, none, 1999, api.ErrClock)
	checkNext(t, none, 2000, joined(2000, 4, 0))
	checkNoNext(t, none, 1999, api.ErrClock)
	most := newDesk(t, lease(4, 2000, 3000), api.MaxBorrow)
	checkNoNext(t, most, 999, api.ErrClock)
	checkNext(t, most, 1000, joined(2000, 4, 0))
	below := newDesk(t, lease(4, 0, 10), api.MaxBorrow)
	checkNoNext(t, below, -1001, api.ErrClock)
	checkNext(t, below, -1000, joined(0, 4, 0))
	checkNext(t, below, -1, joined(0, 4, 1))
	checkNext(t, below, 0, joined(0, 4, 2))
}

func TestP5WindowOfOneTime(t *testing.T) {
	for _, from := range []int{0, 1, 77, api.MaxTime - 1} {
		d := newDesk(t, lease(6, from, from+1), api.MaxBorrow)
		checkNoNext(t, d, from+1, api.ErrSpent)
		checkNoBatch(t, d, from, api.Seqs+1, api.ErrSpent)
		for seq := range api.Seqs {
			checkNext(t, d, from-seq%5, joined(from, 6, seq))
		}
		checkNoNext(t, d, from, api.ErrSpent)
		checkNoNext(t, d, math.MinInt, api.ErrSpent) // spent is named ahead of the clock
		checkNoBatch(t, d, math.MinInt, 1, api.ErrSpent)
		checkGiven(t, d, api.Seqs)
	}
}

func TestP5GreatestNumberOfAll(t *testing.T) {
	d := newDesk(t, lease(api.Nodes-1, 0, api.MaxTime), api.MaxBorrow)
	list := checkBatch(t, d, api.MaxTime-2, 2*api.Seqs, api.Parts{Time: api.MaxTime - 2, Node: api.Nodes - 1})
	if last := list[len(list)-1]; last != greatest {
		t.Errorf("the last number is %d", last)
	}
	checkNoNext(t, d, api.MaxTime-1, api.ErrSpent)
	checkNoNext(t, d, api.MaxTime-2, api.ErrSpent)
	checkNoNext(t, d, api.MaxTime, api.ErrSpent)
}

func TestP5Counts(t *testing.T) {
	d := newDesk(t, lease(3, 10, 20), 5)
	for _, count := range []int{0, -1, api.MaxBatch + 1, math.MinInt, math.MaxInt, 1 << 32, -1 << 32} {
		for _, now := range []int{10, math.MinInt, math.MaxInt} { // the count is named first
			checkNoBatch(t, d, now, count, api.ErrCount)
		}
	}
	checkBatch(t, d, 10, 1, api.Parts{Time: 10, Node: 3})
	checkBatch(t, d, 10, api.MaxBatch, api.Parts{Time: 10, Node: 3, Seq: 1})
	checkBatch(t, d, 11, 1, api.Parts{Time: 10, Node: 3, Seq: api.MaxBatch + 1})
	checkGiven(t, d, api.MaxBatch+2)
}

func TestP5BatchAtEveryPlaceOfATime(t *testing.T) {
	for _, begun := range []int{1, 31, 32, 33, 63, 64, 65, 4064, 4095, 4096} {
		for _, count := range []int{1, 2, 31, 32, 33, 4095, 4096, 4097, 8192, 8193, api.MaxBatch} {
			d := newDesk(t, lease(8, 50, 60), 9)
			checkBatch(t, d, 50, begun, api.Parts{Time: 50, Node: 8})
			checkBatch(t, d, 45, count, api.Parts{Time: 50, Node: 8, Seq: begun})
			last := begun + count
			checkNext(t, d, 50, joined(50+last/api.Seqs, 8, last%api.Seqs))
			checkBatch(t, d, 57, count%api.Seqs+1, api.Parts{Time: 57, Node: 8})
			checkGiven(t, d, begun+count+1+count%api.Seqs+1)
		}
	}
}

// A batch that would fail at its last number, or earlier, gives none; the next call goes on as if it had not been.
func TestP5BatchGivesAllOrNone(t *testing.T) {
	for _, begun := range []int{1, 32, 40, 4095} {
		left := 2*api.Seqs - begun
		spent := newDesk(t, lease(8, 50, 52), 9)
		clock := newDesk(t, lease(8, 50, 60), 1)
		for d, e := range map[*stamps.Desk]api.Errno{spent: api.ErrSpent, clock: api.ErrClock} {
			checkBatch(t, d, 50, begun, api.Parts{Time: 50, Node: 8})
			checkNoBatch(t, d, 50, left+1, e)
			checkNoBatch(t, d, 50, api.MaxBatch, e)
			checkNext(t, d, 50, joined(50, 8, begun))
			checkNoBatch(t, d, 50, left, e)
			checkBatch(t, d, 50, left-1, api.Parts{Time: 50, Node: 8, Seq: begun + 1})
			checkNoBatch(t, d, 50, 1, e)
			checkNoNext(t, d, 50, e)
			checkGiven(t, d, 2*api.Seqs)
		}
	}
}

// The first number that would fail names the error: the time goes on by one, and spent is named ahead of the clock.
func TestP5BatchTellsTheFirstError(t *testing.T) {
	for _, c := range []struct {
		to, borrow int
		want       api.Errno
	}{{11, 0, api.ErrSpent}, {11, 1, api.ErrSpent}, {12, 0, api.ErrClock}, {12, 1, api.ErrSpent}, {12, 2, api.ErrSpent}, {13, 0, api.ErrClock}, {13, 1, api.ErrClock}} {
		d := newDesk(t, lease(8, 10, c.to), c.borrow)
		checkNoBatch(t, d, 10, api.MaxBatch, c.want)
		checkNext(t, d, 10, joined(10, 8, 0))
	}
}

func TestP1BatchIsNewMemory(t *testing.T) {
	d := newDesk(t, lease(8, 10, 100), 9)
	first := checkBatch(t, d, 10, 40, api.Parts{Time: 10, Node: 8})
	second := checkBatch(t, d, 10, 40, api.Parts{Time: 10, Node: 8, Seq: 40})
	for _, list := range [][]uint64{first, second} {
		for i := range list[:cap(list)] {
			list[:cap(list)][i] = 1
		}
	}
	for i := range first[:cap(first)] {
		first[:cap(first)][i] = 2
	}
	for _, n := range second {
		if n != 1 {
			t.Fatalf("the second batch changed with the first")
		}
	}
	checkBatch(t, d, 10, 5000, api.Parts{Time: 10, Node: 8, Seq: 80})
}
