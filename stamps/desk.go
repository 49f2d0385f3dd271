package stamps

import (
	"sync/atomic"

	"stamps/api"
	"stamps/number"
)

// lot is how many numbers are made ahead at a time: few, since those that are left when the time goes on were made for nothing.
const lot = 32

// Desk gives numbers.
type Desk struct {
	lease  api.Lease
	borrow int

	// The time is that of the number given last. Before the first one it is 0, with nothing made of it: that holds nothing back, since no window begins below 0.
	time  int
	made  int         // the Seqs of that time below this one were made
	ready chan uint64 // and those of them that were not given yet lie here

	given atomic.Int64
}

// NewDesk makes a desk (P4).
func NewDesk(lease api.Lease, borrow int) (*Desk, api.Errno) {
	if !isLease(lease) {
		return nil, api.ErrLease
	}
	if borrow < 0 || borrow > api.MaxBorrow {
		return nil, api.ErrSpan
	}
	return &Desk{lease: lease, borrow: borrow}, api.OK
}

// Next gives a number (P5).
func (d *Desk) Next(now int) (uint64, api.Errno) {
	t := d.nextTime(now)
	if e := d.refusal(t, now); e != api.OK {
		return 0, e
	}
	n := d.take(t)
	d.given.Add(1)
	return n, api.OK
}

// Batch gives numbers (P5).
func (d *Desk) Batch(now int, count int) ([]uint64, api.Errno) {
	if count < 1 || count > api.MaxBatch {
		return nil, api.ErrCount
	}
	if e := d.batchRefusal(now, count); e != api.OK {
		return nil, e
	}
	list := make([]uint64, count)
	for i := range list {
		list[i] = d.take(d.nextTime(now))
	}
	d.given.Add(int64(count))
	return list, api.OK
}

// Renew takes another lease (P6).
func (d *Desk) Renew(lease api.Lease) api.Errno {
	if !isLease(lease) {
		return api.ErrLease
	}
	if lease.Node != d.lease.Node {
		return api.ErrNode
	}
	if lease.From < d.lease.To {
		return api.ErrOld
	}
	d.lease = lease
	return api.OK
}

// Given tells how many numbers were given (P4).
func (d *Desk) Given() int {
	return int(d.given.Load())
}

func isLease(l api.Lease) bool {
	return 0 <= l.Node && l.Node < api.Nodes && 0 <= l.From && l.From < l.To && l.To <= api.MaxTime
}

// nextTime tells the Time of the next number, whether it may be given or not.
func (d *Desk) nextTime(now int) int {
	t := max(now, d.lease.From, d.time)
	if d.nextSeq(t) == api.Seqs {
		return t + 1
	}
	return t
}

// nextSeq tells the Seq of the next number, if it has the time t; Seqs, if t has none left.
func (d *Desk) nextSeq(t int) int {
	if t != d.time {
		return 0
	}
	return d.made - len(d.ready)
}

// refusal tells why no number of the time t may be given, or OK.
func (d *Desk) refusal(t int, now int) api.Errno {
	if t >= d.lease.To {
		return api.ErrSpent
	}
	// Here now is not above t, and so far below the greatest int: the sum can't wrap round, as t - now could.
	if t > now+d.borrow {
		return api.ErrClock
	}
	return api.OK
}

// batchRefusal tells the error of the first of count numbers that would have one, or OK.
func (d *Desk) batchRefusal(now int, count int) api.Errno {
	t := d.nextTime(now)
	e := d.refusal(t, now)
	// Times go on one by one, as the clock stands still: each is asked until one is refused.
	for left := count - (api.Seqs - d.nextSeq(t)); left > 0 && e == api.OK; left -= api.Seqs {
		t++
		e = d.refusal(t, now)
	}
	return e
}

// take gives the next number of the time t, which has one left.
func (d *Desk) take(t int) uint64 {
	ready := d.ready
	if t != d.time {
		// Nothing is ever ready in a nil channel: the select goes on past the numbers of another time.
		ready = nil
	}
	select {
	case n := <-ready:
		return n
	default:
		d.makeAhead(t)
		return <-d.ready
	}
}

// makeAhead makes the next numbers of the time t. What still lies in the channel is of a time that is over: it goes with it.
func (d *Desk) makeAhead(t int) {
	first := d.nextSeq(t)
	d.time, d.made = t, min(first+lot, api.Seqs)
	d.ready = make(chan uint64, lot)
	for seq := first; seq < d.made; seq++ {
		d.ready <- number.Join(api.Parts{Time: t, Node: d.lease.Node, Seq: seq})
	}
}
