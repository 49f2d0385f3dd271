package stamps

import (
	"stamps/api"
	"stamps/record"
)

// Office lends windows.
type Office struct {
	span    int
	fences  map[int]int // by node: the To of the last lease that it was given
	journal []byte
}

// NewOffice makes an office (P7).
func NewOffice(journal string, span int) (*Office, api.Errno) {
	if span < 1 || span > api.MaxSpan {
		return nil, api.ErrSpan
	}
	whole := len(journal) - len(journal)%record.Length
	if !record.Begins(journal[whole:]) {
		return nil, api.ErrText
	}
	fences, e := readFences(journal[:whole])
	if e != api.OK {
		return nil, e
	}
	return &Office{span: span, fences: fences, journal: []byte(journal[:whole])}, api.OK
}

// Lease lends a window (P8).
func (o *Office) Lease(node int, now int) (api.Lease, api.Errno) {
	if node < 0 || node >= api.Nodes {
		return api.Lease{}, api.ErrNode
	}
	from := max(now, 0, o.fences[node])
	// This way round nothing wraps round, as from + span could.
	if from > api.MaxTime-o.span {
		return api.Lease{}, api.ErrSpent
	}
	lease := api.Lease{Node: node, From: from, To: from + o.span}
	o.fences[node] = lease.To
	o.journal = append(o.journal, record.Write(lease)...)
	return lease, api.OK
}

// Journal tells the journal (P8).
func (o *Office) Journal() string {
	return string(o.journal)
}

// readFences tells the fences of the nodes behind the records, all of which are whole.
func readFences(records string) (map[int]int, api.Errno) {
	fences := map[int]int{}
	for ; records != ""; records = records[record.Length:] {
		node, to, e := record.Read(records[:record.Length])
		// A To that is not above the fence is of no office: to take it would be to lend a window twice.
		if e != api.OK || to <= fences[node] {
			return nil, api.ErrText
		}
		fences[node] = to
	}
	return fences, api.OK
}
