// Package record: what a journal grows by with one lease, written and read.
package record

import (
	"stamps/api"
	"stamps/letters"
	"stamps/number"
)

// Length is how many bytes every record has. Since they are all of one length, a record that was cut is never taken for a whole one.
const Length = letters.Length

// Write tells the record of a lease: the short text of the greatest number that it holds. This tells its Node and its To, and no more is needed of it, whatever span the office has that reads it.
func Write(l api.Lease) string {
	return letters.Write(number.Join(api.Parts{Time: l.To - 1, Node: l.Node, Seq: api.Seqs - 1}))
}

// Read tells the node and the To of a record's lease.
func Read(text string) (int, int, api.Errno) {
	n, e := letters.Read(text)
	p := number.Split(n)
	// A record is not copied by hand: of the texts of its number just the one that Write tells is taken.
	if e != api.OK || p.Seq != api.Seqs-1 || letters.Write(n) != text {
		return 0, 0, api.ErrText
	}
	return p.Node, p.Time + 1, api.OK
}

// Begins tells whether text, which is shorter than a record, is the beginning of one.
func Begins(text string) bool {
	greatest := letters.Write(number.End - 1)
	// If any record begins so, then the one does that goes on as the greatest: with all bits set, those of the Seq among them.
	_, _, e := Read(text + greatest[len(text):])
	return e == api.OK
}
