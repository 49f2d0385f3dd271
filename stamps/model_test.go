package stamps_test

import (
	"math"
	"testing"

	"stamps/api"
)

// deskModel does one number after the other what the document says, without any number made ahead.
type deskModel struct {
	lease     api.Lease
	borrow    int
	given     int
	time, seq int // of the number given last, if one was given
}

func (m *deskModel) next(now int) (uint64, api.Errno) {
	t := max(now, m.lease.From)
	seq := 0
	if m.given > 0 && m.time >= t {
		t, seq = m.time, m.seq+1
		if seq == api.Seqs {
			t, seq = m.time+1, 0
		}
	}
	if t >= m.lease.To {
		return 0, api.ErrSpent
	}
	if now < t-m.borrow {
		return 0, api.ErrClock
	}
	m.given, m.time, m.seq = m.given+1, t, seq
	return joined(t, m.lease.Node, seq), api.OK
}

func (m *deskModel) batch(now, count int) ([]uint64, api.Errno) {
	if count < 1 || count > api.MaxBatch {
		return nil, api.ErrCount
	}
	before := *m
	var list []uint64
	for range count {
		n, e := m.next(now)
		if e != api.OK {
			*m = before
			return nil, e
		}
		list = append(list, n)
	}
	return list, api.OK
}

func (m *deskModel) renew(l api.Lease) api.Errno {
	switch {
	case l.Node < 0 || l.Node > 1023 || l.From < 0 || l.From >= l.To || l.To > 1<<41:
		return api.ErrLease
	case l.Node != m.lease.Node:
		return api.ErrNode
	case l.From < m.lease.To:
		return api.ErrOld
	}
	m.lease = l
	return api.OK
}

// strewn gives the same numbers in every run.
type strewn uint64

func (s *strewn) below(end int) int {
	*s = *s*6364136223846793005 + 1442695040888963407
	return int(uint64(*s)>>33) % end
}

func (s *strewn) clock(m *deskModel) int {
	switch s.below(20) {
	case 0:
		return math.MinInt + s.below(3)
	case 1:
		return math.MaxInt - s.below(3)
	case 2:
		return m.lease.To - s.below(3)
	case 3:
		return m.lease.From - s.below(m.borrow+3)
	}
	return max(m.time, m.lease.From) + s.below(5) - s.below(m.borrow+3)
}

func (s *strewn) count() int {
	if s.below(10) == 0 {
		return s.below(api.MaxBatch + 3)
	}
	return s.below(600)
}

func (s *strewn) lease(m *deskModel) api.Lease {
	from := m.lease.To + s.below(4) - 1
	return lease(m.lease.Node+s.below(10)/9, from, from+s.below(20))
}

// P5 and P6: long runs of calls, held against the model.
func TestP5AndP6AgreeWithTheModel(t *testing.T) {
	for seed := range 60 {
		s := strewn(seed)
		from := []int{0, 1, 1000, api.MaxTime - 30}[s.below(4)]
		m := &deskModel{lease: lease(s.below(1024), from, from+1+s.below(20)), borrow: []int{0, 1, 3, 1000}[s.below(4)]}
		d := newDesk(t, m.lease, m.borrow)
		for range 400 {
			switch s.below(12) {
			case 0:
				l := s.lease(m)
				checkRenew(t, d, l, m.renew(l))
			case 1, 2, 3, 4:
				now, count := s.clock(m), s.count()
				want, wantErr := m.batch(now, count)
				if wantErr != api.OK {
					checkNoBatch(t, d, now, count, wantErr)
				} else {
					p := want[0]
					checkBatch(t, d, now, count, api.Parts{Time: int(p >> 22), Node: int(p >> 12 & 1023), Seq: int(p & 4095)})
				}
			default:
				now := s.clock(m)
				if want, e := m.next(now); e != api.OK {
					checkNoNext(t, d, now, e)
				} else {
					checkNext(t, d, now, want)
				}
			}
			checkGiven(t, d, m.given)
		}
		if t.Failed() {
			t.Fatalf("with the seed %d", seed)
		}
	}
}
