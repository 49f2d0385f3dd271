package stamps_test

import (
	"math"
	"strings"
	"testing"
	"unsafe"

	"stamps/api"
	"stamps/stamps"
)

func newOffice(t *testing.T, journal string, span int) *stamps.Office {
	t.Helper()
	o, e := stamps.NewOffice(journal, span)
	if o == nil || e != api.OK {
		t.Fatalf("NewOffice(%q, %d) = %v, %d", journal, span, o, e)
	}
	return o
}

func checkNoOffice(t *testing.T, journal string, span int, want api.Errno) {
	t.Helper()
	if o, e := stamps.NewOffice(journal, span); o != nil || e != want {
		t.Errorf("NewOffice(%q, %d) = %v, %d; want error %d", journal, span, o, e, want)
	}
}

// checkLease also sees that the journal grows, and begins with what it told.
func checkLease(t *testing.T, o *stamps.Office, now int, want api.Lease) {
	t.Helper()
	before := o.Journal()
	if l, e := o.Lease(want.Node, now); l != want || e != api.OK {
		t.Errorf("Lease(%d, %d) = %+v, %d; want %+v", want.Node, now, l, e, want)
	}
	if after := o.Journal(); len(after) <= len(before) || !strings.HasPrefix(after, before) {
		t.Errorf("the journal was %q, and behind a lease it is %q", before, after)
	}
}

// checkNoLease also sees that the journal stays as it is.
func checkNoLease(t *testing.T, o *stamps.Office, node, now int, want api.Errno) {
	t.Helper()
	before := o.Journal()
	if l, e := o.Lease(node, now); l != (api.Lease{}) || e != want {
		t.Errorf("Lease(%d, %d) = %+v, %d; want error %d", node, now, l, e, want)
	}
	checkJournal(t, o, before)
}

func checkJournal(t *testing.T, o *stamps.Office, want string) {
	t.Helper()
	if journal := o.Journal(); journal != want {
		t.Errorf("the journal is %q; want %q", journal, want)
	}
}

func wrongSpans() []int {
	return []int{0, -1, -10, api.MaxSpan + 1, math.MinInt, math.MinInt + 1, math.MaxInt, 1 << 32, 1<<32 + 1, 1 << 62}
}

func wrongNodes() []int {
	return []int{-1, api.Nodes, api.Nodes + 7, math.MinInt, math.MaxInt, 1 << 32, -1 << 32}
}

func TestP7AndP8WorkedOffice(t *testing.T) {
	o := newOffice(t, "", 10)
	checkJournal(t, o, "")
	checkLease(t, o, 5, lease(7, 5, 15))
	checkLease(t, o, 3, lease(7, 15, 25))
	checkLease(t, o, -4, lease(8, 0, 10))
	checkLease(t, newOffice(t, o.Journal(), 10), 0, lease(7, 25, 35))
}

func TestP7Spans(t *testing.T) {
	for _, span := range []int{1, 2, 10, api.MaxSpan - 1, api.MaxSpan} {
		o := newOffice(t, "", span)
		checkJournal(t, o, "")
		checkLease(t, o, 0, lease(0, 0, span))
		checkLease(t, o, 5, lease(0, max(span, 5), max(span, 5)+span))
		checkLease(t, newOffice(t, o.Journal(), span), 0, lease(0, max(span, 5)+span, max(span, 5)+2*span))
	}
}

// The span is named ahead of the text.
func TestP7WrongSpans(t *testing.T) {
	o := newOffice(t, "", 10)
	checkLease(t, o, 0, lease(7, 0, 10))
	for _, span := range wrongSpans() {
		for _, journal := range []string{"", o.Journal(), o.Journal()[1:], "no journal", strings.Repeat("\xff", 1000)} {
			checkNoOffice(t, journal, span, api.ErrSpan)
		}
	}
}

// grown is an office with what it gave, and how long its journal was behind each lease.
type grown struct {
	leases  []api.Lease
	sizes   []int
	journal string
}

// grow has offices with other spans go on with one journal.
func grow(t *testing.T, seed int) grown {
	t.Helper()
	s := strewn(seed)
	var g grown
	for _, span := range []int{7, 1, api.MaxSpan, 30} {
		o := newOffice(t, g.journal, span)
		for range 6 {
			l, e := o.Lease([]int{0, 7, api.Nodes - 1}[s.below(3)], s.below(100)-10)
			if e != api.OK {
				t.Fatal(e)
			}
			g.leases = append(g.leases, l)
			g.journal = o.Journal()
			g.sizes = append(g.sizes, len(g.journal))
		}
	}
	return g
}

// below tells the fences of the leases whose records are whole within size bytes, and how long those are.
func (g grown) below(size int) (map[int]int, int) {
	fences, whole := map[int]int{}, 0
	for i, l := range g.leases {
		if g.sizes[i] <= size {
			fences[l.Node], whole = l.To, g.sizes[i]
		}
	}
	return fences, whole
}

func TestP7EveryBeginningOfAJournal(t *testing.T) {
	for seed := range 4 {
		g := grow(t, seed)
		for cut := range len(g.journal) + 1 {
			fences, whole := g.below(cut)
			for _, span := range []int{1, 5, api.MaxSpan} {
				o := newOffice(t, g.journal[:cut], span)
				checkJournal(t, o, g.journal[:whole])
				for _, node := range []int{0, 1, 7, api.Nodes - 1} {
					fence := fences[node]
					checkLease(t, o, fence-1, lease(node, fence, fence+span))
				}
				checkJournal(t, newOffice(t, o.Journal(), 3), o.Journal())
			}
		}
	}
}

// An office begins anew again and again, each time behind a record that was cut: what it gave since then still holds.
func TestP7BeginsAnewManyTimes(t *testing.T) {
	s := strewn(5)
	journal := ""
	var fences [4]int
	for round := range 300 {
		span := 1 + s.below(20)
		o := newOffice(t, journal, span)
		for range s.below(4) {
			node, now := s.below(4), s.below(2000)
			from := max(now, fences[node])
			checkLease(t, o, now, lease(node, from, from+span))
			fences[node] = from + span
		}
		journal = o.Journal()
		// One more lease, of whose record only a part was kept.
		if _, e := o.Lease(s.below(4), round); e != api.OK {
			t.Fatal(e)
		}
		journal = o.Journal()[:len(journal)+s.below(len(o.Journal())-len(journal))]
	}
}

func TestP8Clocks(t *testing.T) {
	o := newOffice(t, "", 10)
	checkLease(t, o, math.MinInt, lease(0, 0, 10))
	checkLease(t, o, math.MinInt, lease(0, 10, 20))
	checkLease(t, o, -1, lease(0, 20, 30))
	checkLease(t, o, 29, lease(0, 30, 40)) // below the fence
	checkLease(t, o, 40, lease(0, 40, 50)) // at it
	checkLease(t, o, 51, lease(0, 51, 61)) // above it
	checkLease(t, o, 0, lease(0, 61, 71))
	checkLease(t, o, -1, lease(1, 0, 10))
	checkLease(t, o, 0, lease(2, 0, 10))
	checkLease(t, o, 1, lease(3, 1, 11))
}

func TestP8NodesHaveFencesOfTheirOwn(t *testing.T) {
	o := newOffice(t, "", 3)
	for node := range api.Nodes {
		checkLease(t, o, node, lease(node, node, node+3))
	}
	o = newOffice(t, o.Journal(), 2)
	for node := range api.Nodes {
		checkLease(t, o, 0, lease(node, node+3, node+5))
	}
}

// The node is named ahead of the times.
func TestP8WrongNodes(t *testing.T) {
	o := newOffice(t, "", 10)
	for _, node := range wrongNodes() {
		for _, now := range []int{0, -1, 5, api.MaxTime, math.MinInt, math.MaxInt} {
			checkNoLease(t, o, node, now, api.ErrNode)
		}
	}
	checkJournal(t, o, "")
	checkLease(t, o, 0, lease(0, 0, 10))
	checkLease(t, o, 0, lease(api.Nodes-1, 0, 10))
}

func TestP8Spent(t *testing.T) {
	for _, span := range []int{1, 2, 10, api.MaxSpan} {
		last := api.MaxTime - span
		o := newOffice(t, "", span)
		for _, now := range []int{last + 1, api.MaxTime - 1, api.MaxTime, api.MaxTime + 1, math.MaxInt - span, math.MaxInt - 1, math.MaxInt} {
			if now > last {
				checkNoLease(t, o, 7, now, api.ErrSpent)
			}
		}
		checkJournal(t, o, "")
		checkLease(t, o, 0, lease(7, 0, span)) // a refusal moves no fence
		checkLease(t, o, last, lease(7, last, api.MaxTime))
		for _, now := range []int{math.MinInt, -1, 0, 1, last, api.MaxTime, math.MaxInt} {
			checkNoLease(t, o, 7, now, api.ErrSpent)
		}
		checkLease(t, o, 0, lease(8, 0, span)) // the times of another node are its own
		o = newOffice(t, o.Journal(), 1)
		checkNoLease(t, o, 7, 0, api.ErrSpent)
		checkLease(t, o, 0, lease(8, span, span+1))
	}
}

// Where a window of one span is too long, one of another may still be lent.
func TestP8LeftOverTimes(t *testing.T) {
	o := newOffice(t, "", 10)
	checkLease(t, o, api.MaxTime-15, lease(7, api.MaxTime-15, api.MaxTime-5))
	checkNoLease(t, o, 7, 0, api.ErrSpent)
	checkNoLease(t, newOffice(t, o.Journal(), 6), 7, 0, api.ErrSpent)
	o = newOffice(t, o.Journal(), 5)
	checkLease(t, o, 0, lease(7, api.MaxTime-5, api.MaxTime))
	checkNoLease(t, o, 7, 0, api.ErrSpent)
}

func TestP8WhatTheJournalToldStays(t *testing.T) {
	o := newOffice(t, "", 10)
	var told, copies []string
	for i := range 200 {
		told = append(told, o.Journal())
		copies = append(copies, strings.Clone(o.Journal()))
		checkLease(t, o, 10*i, lease(7, 10*i, 10*i+10))
	}
	for i, journal := range told {
		if journal != copies[i] || !strings.HasPrefix(o.Journal(), journal) {
			t.Errorf("what was told behind %d leases is no beginning of the journal", i)
		}
	}
}

func TestP1OfficesKnowNothingOfOneAnother(t *testing.T) {
	o := newOffice(t, "", 10)
	checkLease(t, o, 5, lease(7, 5, 15))
	journal := o.Journal()
	a, b := newOffice(t, journal, 3), newOffice(t, journal, 4)
	checkLease(t, a, 0, lease(7, 15, 18))
	checkLease(t, a, 0, lease(8, 0, 3))
	checkJournal(t, b, journal)
	checkLease(t, b, 0, lease(7, 15, 19))
	checkJournal(t, o, journal)
	checkLease(t, o, 0, lease(7, 15, 25))
	checkLease(t, a, 0, lease(7, 18, 21))
	checkLease(t, b, 0, lease(8, 0, 4))
}

func TestP1JournalsAreNewMemory(t *testing.T) {
	o := newOffice(t, "", 10)
	checkLease(t, o, 5, lease(7, 5, 15))
	first := o.Journal()
	second := newOffice(t, first, 10).Journal()
	if unsafe.StringData(first) == unsafe.StringData(second) || unsafe.StringData(first) == unsafe.StringData(o.Journal()) {
		t.Error("two journals share their memory")
	}
}
