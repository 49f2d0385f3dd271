package stamps_test

import (
	"math"
	"testing"

	"stamps/api"
	"stamps/stamps"
)

func lease(node, from, to int) api.Lease {
	return api.Lease{Node: node, From: from, To: to}
}

func newDesk(t *testing.T, l api.Lease, borrow int) *stamps.Desk {
	t.Helper()
	d, e := stamps.NewDesk(l, borrow)
	if d == nil || e != api.OK {
		t.Fatalf("NewDesk(%+v, %d) = %v, %d", l, borrow, d, e)
	}
	return d
}

func checkGiven(t *testing.T, d *stamps.Desk, want int) {
	t.Helper()
	if given := d.Given(); given != want {
		t.Errorf("Given() = %d; want %d", given, want)
	}
}

func joined(time, node, seq int) uint64 {
	return uint64(time)<<22 | uint64(node)<<12 | uint64(seq)
}

func checkNext(t *testing.T, d *stamps.Desk, now int, want uint64) {
	t.Helper()
	if n, e := d.Next(now); n != want || e != api.OK {
		t.Errorf("Next(%d) = %d (time %d, seq %d), %d; want %d (time %d, seq %d)", now, n, n>>22, n&4095, e, want, want>>22, want&4095)
	}
}

// checkNoNext also sees that nothing was given.
func checkNoNext(t *testing.T, d *stamps.Desk, now int, want api.Errno) {
	t.Helper()
	given := d.Given()
	if n, e := d.Next(now); n != 0 || e != want {
		t.Errorf("Next(%d) = %d, %d; want error %d", now, n, e, want)
	}
	checkGiven(t, d, given)
}

// checkBatch wants numbers that begin with the one of first, and run on from time to time.
func checkBatch(t *testing.T, d *stamps.Desk, now, count int, first api.Parts) []uint64 {
	t.Helper()
	list, e := d.Batch(now, count)
	if len(list) != count || e != api.OK {
		t.Fatalf("Batch(%d, %d) = %d numbers, %d", now, count, len(list), e)
	}
	for i, n := range list {
		seq := first.Seq + i
		if want := joined(first.Time+seq/api.Seqs, first.Node, seq%api.Seqs); n != want {
			t.Fatalf("Batch(%d, %d): number %d is %d (time %d, seq %d); want %d (time %d, seq %d)", now, count, i, n, n>>22, n&4095, want, want>>22, want&4095)
		}
	}
	return list
}

func checkNoBatch(t *testing.T, d *stamps.Desk, now, count int, want api.Errno) {
	t.Helper()
	given := d.Given()
	if list, e := d.Batch(now, count); list != nil || e != want {
		t.Errorf("Batch(%d, %d) = %d numbers, %d; want error %d", now, count, len(list), e, want)
	}
	checkGiven(t, d, given)
}

func checkRenew(t *testing.T, d *stamps.Desk, l api.Lease, want api.Errno) {
	t.Helper()
	if e := d.Renew(l); e != want {
		t.Errorf("Renew(%+v) = %d; want %d", l, e, want)
	}
}

// noLeases has each edge of a lease overstepped, alone and with others.
func noLeases() []api.Lease {
	return []api.Lease{
		{}, lease(-1, 0, 1), lease(api.Nodes, 0, 1), lease(math.MinInt, 0, 1), lease(math.MaxInt, 0, 1), lease(1<<32, 0, 1),
		lease(0, -1, 1), lease(0, math.MinInt, 1), lease(0, math.MinInt, math.MaxInt), lease(0, -2, -1),
		lease(0, 0, 0), lease(0, 5, 5), lease(0, 6, 5), lease(0, 1, 0), lease(0, 0, -1), lease(0, 5, math.MinInt), lease(0, math.MaxInt, math.MinInt),
		lease(0, api.MaxTime, api.MaxTime), lease(0, 0, api.MaxTime+1), lease(0, api.MaxTime, api.MaxTime+1), lease(0, 0, math.MaxInt),
	}
}

func TestP4Desks(t *testing.T) {
	for _, l := range []api.Lease{
		lease(0, 0, 1), lease(api.Nodes-1, 0, 1), lease(2, 100, 200),
		lease(0, 0, api.MaxTime), lease(api.Nodes-1, api.MaxTime-1, api.MaxTime), lease(7, 1, 2),
	} {
		for _, borrow := range []int{0, 1, 5, api.MaxBorrow - 1, api.MaxBorrow} {
			d := newDesk(t, l, borrow)
			checkGiven(t, d, 0)
			checkNext(t, d, l.From, joined(l.From, l.Node, 0))
			checkGiven(t, d, 1)
		}
	}
}

func TestP4NoDesks(t *testing.T) {
	wrongBorrows := []int{-1, api.MaxBorrow + 1, math.MinInt, math.MaxInt, 1 << 32, -1 << 32}
	for _, l := range noLeases() {
		// The lease is named first.
		for _, borrow := range append(wrongBorrows, 0, api.MaxBorrow) {
			if d, e := stamps.NewDesk(l, borrow); d != nil || e != api.ErrLease {
				t.Errorf("NewDesk(%+v, %d) = %v, %d", l, borrow, d, e)
			}
		}
	}
	for _, borrow := range wrongBorrows {
		if d, e := stamps.NewDesk(lease(0, 0, 1), borrow); d != nil || e != api.ErrSpan {
			t.Errorf("NewDesk(.., %d) = %v, %d", borrow, d, e)
		}
	}
}

func TestP4GivenCountsNumbersAlone(t *testing.T) {
	d := newDesk(t, lease(3, 10, 20), 2)
	checkGiven(t, d, 0)
	checkNoNext(t, d, 7, api.ErrClock)
	checkNoNext(t, d, 20, api.ErrSpent)
	checkNoBatch(t, d, 10, 0, api.ErrCount)
	checkGiven(t, d, 0)
	checkNext(t, d, 10, joined(10, 3, 0))
	checkGiven(t, d, 1)
	checkBatch(t, d, 10, 5000, api.Parts{Time: 10, Node: 3, Seq: 1})
	checkGiven(t, d, 5001)
	checkRenew(t, d, lease(3, 20, 30), api.OK)
	checkRenew(t, d, lease(3, 20, 30), api.ErrOld)
	checkGiven(t, d, 5001)
	checkNext(t, d, 20, joined(20, 3, 0))
	checkGiven(t, d, 5002)
}

func TestP6Renew(t *testing.T) {
	d := newDesk(t, lease(3, 10, 20), 1)
	checkNext(t, d, 15, joined(15, 3, 0))
	checkRenew(t, d, lease(3, 20, 21), api.OK) // it may begin where the other ends
	checkNoNext(t, d, 18, api.ErrClock)
	checkNext(t, d, 19, joined(20, 3, 0))
	checkNext(t, d, 20, joined(20, 3, 1))
	checkNoNext(t, d, 21, api.ErrSpent)
	checkRenew(t, d, lease(3, 500, 600), api.OK)
	checkNoNext(t, d, 498, api.ErrClock)
	checkBatch(t, d, 499, 4096, api.Parts{Time: 500, Node: 3})
	checkNoNext(t, d, 499, api.ErrClock)
	checkBatch(t, d, 500, 2, api.Parts{Time: 501, Node: 3})
	checkRenew(t, d, lease(3, api.MaxTime-1, api.MaxTime), api.OK)
	checkNext(t, d, api.MaxTime-1, joined(api.MaxTime-1, 3, 0))
}

// What was made ahead of the time that a lease broke off is not given under the next one.
func TestP6RenewInTheMidstOfATime(t *testing.T) {
	for _, begun := range []int{1, 2, 31, 32, 33, 4095, 4096} {
		d := newDesk(t, lease(9, 10, 11), 1000)
		checkBatch(t, d, 10, begun, api.Parts{Time: 10, Node: 9})
		checkRenew(t, d, lease(9, 11, 13), api.OK)
		checkBatch(t, d, 0, 8192, api.Parts{Time: 11, Node: 9})
		checkNoNext(t, d, 0, api.ErrSpent)
		checkGiven(t, d, begun+8192)
	}
}

func TestP6RenewOfADeskThatHasGivenNothing(t *testing.T) {
	d := newDesk(t, lease(0, 0, 1), 0)
	checkRenew(t, d, lease(0, 0, 5), api.ErrOld)
	checkRenew(t, d, lease(0, 1, 2), api.OK)
	checkNoNext(t, d, 0, api.ErrClock)
	checkNext(t, d, 1, joined(1, 0, 0))
	checkNoNext(t, d, 2, api.ErrSpent)
}

func TestP6NoRenew(t *testing.T) {
	d := newDesk(t, lease(3, 10, 20), 0)
	checkNext(t, d, 10, joined(10, 3, 0))
	for _, l := range noLeases() {
		checkRenew(t, d, l, api.ErrLease)
	}
	checkRenew(t, d, lease(4, 9, 9), api.ErrLease) // of another node and old, too
	checkRenew(t, d, lease(3, 9, 9), api.ErrLease)
	checkRenew(t, d, lease(3, 25, 25), api.ErrLease)
	checkRenew(t, d, lease(3, 25, api.MaxTime+1), api.ErrLease)
	for _, node := range []int{0, 2, 4, api.Nodes - 1} {
		checkRenew(t, d, lease(node, 20, 30), api.ErrNode)
		checkRenew(t, d, lease(node, 0, 9), api.ErrNode) // old, too
	}
	for _, l := range []api.Lease{lease(3, 19, 30), lease(3, 10, 20), lease(3, 0, 5), lease(3, 0, api.MaxTime), lease(3, 0, 10), lease(3, 15, 16)} {
		checkRenew(t, d, l, api.ErrOld)
	}
	// None of them was taken: window, node and numbers are as they were.
	checkNext(t, d, 10, joined(10, 3, 1))
	checkNext(t, d, 19, joined(19, 3, 0))
	checkNoNext(t, d, 20, api.ErrSpent)
	checkRenew(t, d, lease(3, 20, 30), api.OK)
	checkRenew(t, d, lease(3, 29, 40), api.ErrOld)
	checkRenew(t, d, lease(3, 20, 30), api.ErrOld)
}

func TestP1DesksKnowNothingOfOneAnother(t *testing.T) {
	a, b := newDesk(t, lease(3, 10, 20), 0), newDesk(t, lease(3, 10, 20), 1000)
	for i := range 100 {
		checkNext(t, a, 15, joined(15, 3, i))
		checkNext(t, b, 16, joined(16, 3, i))
	}
	checkRenew(t, a, lease(3, 50, 60), api.OK)
	checkNext(t, b, 16, joined(16, 3, 100))
	checkNoNext(t, a, 16, api.ErrClock)
	checkGiven(t, a, 100)
	checkGiven(t, b, 101)
}
