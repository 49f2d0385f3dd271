// Package stamps: numbers that are never given twice, whatever the clocks say: see DOC.md.
package stamps

import (
	"strconv"

	"stamps/api"
	"stamps/letters"
	"stamps/number"
)

// Decimal tells a number's decimal text (P2).
func Decimal(n uint64) (string, api.Errno) {
	if !number.Is(n) {
		return "", api.ErrRange
	}
	return strconv.FormatUint(n, 10), api.OK
}

// Short tells a number's short text (P2).
func Short(n uint64) (string, api.Errno) {
	if !number.Is(n) {
		return "", api.ErrRange
	}
	return letters.Write(n), api.OK
}

// ParseDecimal reads a decimal text (P2).
func ParseDecimal(text string) (uint64, api.Errno) {
	n, err := strconv.ParseUint(text, 10, 64)
	if err != nil || !number.Is(n) {
		return 0, api.ErrText
	}
	// ParseUint lets noughts stand ahead; a number has one decimal text only.
	if strconv.FormatUint(n, 10) != text {
		return 0, api.ErrText
	}
	return n, api.OK
}

// ParseShort reads a short text (P2).
func ParseShort(text string) (uint64, api.Errno) {
	return letters.Read(text)
}

// LetterWorth tells what one letter of a short text is worth to ParseShort, 0 to 31; ErrText, if it is none. It is no call of the document: it is how the table is asked.
func LetterWorth(letter byte) (int, api.Errno) {
	return letters.Tabled(letter)
}

// Parts tells a number's parts (P2).
func Parts(n uint64) (api.Parts, api.Errno) {
	if !number.Is(n) {
		return api.Parts{}, api.ErrRange
	}
	return number.Split(n), api.OK
}

// Range tells which numbers have times within (P3).
func Range(from int, to int) (uint64, uint64, api.Errno) {
	if from < 0 || from > to || to > api.MaxTime {
		return 0, 0, api.ErrRange
	}
	return number.First(from), number.First(to), api.OK
}
