// Package letters: a number's short text, written and read.
package letters

import (
	"strings"
	"sync"

	"stamps/api"
	"stamps/number"
)

// Length is how many letters every short text has.
const Length = 13

const (
	alphabet = "0123456789ABCDEFGHJKMNPQRSTVWXYZ"
	bits     = 5
)

// firstEnd is just above the worth of a number's first letter: the other twelve hold 60 of its 63 bits.
const firstEnd = number.End >> (bits * (Length - 1))

// none is told of a byte that is no letter; no letter is worth as much.
const none = len(alphabet)

// The table tells of a letter what worth tells. It stands beside it: nothing that is read hangs on it.
var (
	tableOnce sync.Once
	table     [128]uint8
)

// Write tells the short text of a number.
func Write(n uint64) string {
	var text [Length]byte
	for i := Length - 1; i >= 0; i-- {
		text[i] = alphabet[n%uint64(len(alphabet))]
		n >>= bits
	}
	return string(text[:])
}

// Read tells the number of a short text, be it copied by hand.
func Read(text string) (uint64, api.Errno) {
	if len(text) != Length {
		return 0, api.ErrText
	}
	n := uint64(0)
	for i := range Length {
		w := worth(text[i])
		if w == none {
			return 0, api.ErrText
		}
		n = n<<bits | uint64(w)
	}
	// Thirteen letters hold 65 bits, so n itself may have lost the highest: only the first letter tells.
	if worth(text[0]) >= firstEnd {
		return 0, api.ErrRange
	}
	return n, api.OK
}

// worth tells what a letter is worth, or none.
func worth(letter byte) int {
	switch letter = great(letter); letter {
	// These are left out of the alphabet because a hand mistakes them for digits.
	case 'I', 'L':
		return 1
	case 'O':
		return 0
	}
	if place := strings.IndexByte(alphabet, letter); place >= 0 {
		return place
	}
	return none
}

func great(letter byte) byte {
	if letter < 'a' || letter > 'z' {
		return letter
	}
	return letter - 'a' + 'A'
}

// Tabled tells by the table what a letter is worth.
func Tabled(letter byte) (int, api.Errno) {
	tableOnce.Do(fillTable)
	if int(letter) >= len(table) || int(table[letter]) == none {
		return 0, api.ErrText
	}
	return int(table[letter]), api.OK
}

func fillTable() {
	for i := range table {
		table[i] = uint8(none)
	}
	for i := range len(alphabet) {
		enter(alphabet[i], i)
	}
	enter('I', 1)
	enter('L', 1)
	enter('O', 0)
}

// enter puts a letter into the table, small and great.
func enter(letter byte, value int) {
	table[letter] = uint8(value)
	table[small(letter)] = uint8(value)
}

func small(letter byte) byte {
	if letter < 'A' || letter > 'Z' {
		return letter
	}
	return letter - 'A' + 'a'
}
