package stamps_test

import (
	"testing"

	"stamps/api"
	"stamps/stamps"
)

// street has an office, which may end and begin anew, and desks of a few nodes, several of each.
type street struct {
	t      *testing.T
	s      strewn
	office *stamps.Office
	desks  []*counter
	given  map[uint64]int // by number: which desk gave it
	lent   []api.Lease
}

// counter is a desk with what it gave last.
type counter struct {
	desk  *stamps.Desk
	lease api.Lease
	last  uint64
	text  string // of the last one; empty, if there is none
}

// lend gives a window that meets no other of its node.
func (w *street) lend(node, now int) api.Lease {
	w.t.Helper()
	l, e := w.office.Lease(node, now)
	if e != api.OK {
		w.t.Fatalf("Lease(%d, %d): %d", node, now, e)
	}
	for _, other := range w.lent {
		if other.Node == node && l.From < other.To && other.From < l.To {
			w.t.Fatalf("P9: %+v is lent, and so was %+v", l, other)
		}
	}
	w.lent = append(w.lent, l)
	return l
}

func (w *street) beginAnew() {
	w.office = newOffice(w.t, w.office.Journal(), 1+w.s.below(9))
}

func (w *street) open(node, now int) {
	l := w.lend(node, now)
	w.desks = append(w.desks, &counter{desk: newDesk(w.t, l, w.s.below(5)), lease: l})
}

func (w *street) renew(c *counter, now int) {
	c.lease = w.lend(c.lease.Node, now)
	checkRenew(w.t, c.desk, c.lease, api.OK)
}

// note sees that a number is new, and stands behind those that the desk gave.
func (w *street) note(which int, n uint64) {
	w.t.Helper()
	c := w.desks[which]
	if other, found := w.given[n]; found {
		w.t.Fatalf("P9: the desk %d gives %d, which the desk %d gave", which, n, other)
	}
	w.given[n] = which
	text, e := stamps.Short(n)
	if e != api.OK || c.text != "" && (n <= c.last || text <= c.text) {
		w.t.Fatalf("P9: the desk %d gives %d (%s) behind %d (%s)", which, n, text, c.last, c.text)
	}
	c.last, c.text = n, text
	if p, _ := stamps.Parts(n); p.Node != c.lease.Node || p.Time < c.lease.From || p.Time >= c.lease.To {
		w.t.Fatalf("P9: the desk %d gives %+v outside of %+v", which, p, c.lease)
	}
}

// clock tells a time near the desk's window, before it and behind it too, or any other one: clocks often go back.
func (w *street) clock(c *counter, round int) int {
	if w.s.below(5) == 0 {
		return w.s.below(round + 1)
	}
	return c.lease.From + w.s.below(12) - 4
}

// step has one desk give numbers, and at times lends it another window where it gives none.
func (w *street) step(round int) {
	which := w.s.below(len(w.desks))
	c := w.desks[which]
	now := w.clock(c, round)
	list, e := w.some(c, now)
	for _, n := range list {
		w.note(which, n)
	}
	if e != api.OK && w.s.below(3) == 0 {
		w.renew(c, now)
	}
}

func (w *street) some(c *counter, now int) ([]uint64, api.Errno) {
	if w.s.below(4) == 0 {
		return c.desk.Batch(now, 1+w.s.below(200))
	}
	n, e := c.desk.Next(now)
	if e != api.OK {
		return nil, e
	}
	return []uint64{n}, e
}

func TestP9NoNumberIsGivenTwice(t *testing.T) {
	for seed := range 10 {
		w := &street{t: t, s: strewn(seed), office: newOffice(t, "", 5), given: map[uint64]int{}}
		for node := range 3 {
			w.open(node, 0)
			w.open(node, 0)
		}
		for round := range 4000 {
			if w.s.below(40) == 0 {
				w.beginAnew()
			}
			if w.s.below(200) == 0 {
				w.open(w.s.below(3), w.s.below(round+1))
			}
			w.step(round)
		}
		if len(w.given) < 4000 {
			t.Errorf("with the seed %d only %d numbers were given", seed, len(w.given))
		}
	}
}

// The same times, again and again: a clock that stands still, or begins at 0 with each office, gives no number twice.
func TestP9ClocksThatBeginAnew(t *testing.T) {
	w := &street{t: t, s: 3, office: newOffice(t, "", 2), given: map[uint64]int{}}
	for i := range 60 {
		w.beginAnew()
		w.open(7, 0)
		c := w.desks[i]
		for range 3 {
			list, e := c.desk.Batch(c.lease.From, 4000)
			if e != api.OK && e != api.ErrSpent && e != api.ErrClock {
				t.Fatal(e)
			}
			for _, n := range list {
				w.note(i, n)
			}
		}
	}
}
