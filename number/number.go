// Package number: how a number is made of its time, its node and its place within that time.
package number

import "stamps/api"

// ofTime is how many numbers one time has.
const ofTime = api.Nodes * api.Seqs

// End is just above the greatest number.
const End = api.MaxTime * ofTime

// Is tells whether n is a number.
func Is(n uint64) bool {
	return n < End
}

// Split takes a number apart.
func Split(n uint64) api.Parts {
	return api.Parts{
		Time: int(n / ofTime),
		Node: int(n / api.Seqs % api.Nodes),
		Seq:  int(n % api.Seqs),
	}
}

// Join makes a number of its parts.
func Join(p api.Parts) uint64 {
	return First(p.Time) + uint64(p.Node)*api.Seqs + uint64(p.Seq)
}

// First tells the least number of a time; of MaxTime, which no number has, End.
func First(time int) uint64 {
	return uint64(time) * ofTime
}
