package record

import (
	"strings"
	"testing"

	"stamps/api"
)

func someLeases() []api.Lease {
	var list []api.Lease
	for _, node := range []int{0, 1, 2, 7, 31, 32, 511, 512, api.Nodes - 1} {
		for _, to := range []int{1, 2, 15, 1023, 1024, api.MaxSpan, 1<<31 - 1, 1 << 31, 1 << 32, api.MaxTime - 1, api.MaxTime} {
			list = append(list, api.Lease{Node: node, From: to - 1, To: to}, api.Lease{Node: node, From: to / 2, To: to})
		}
	}
	return list
}

func checkNone(t *testing.T, text string) {
	t.Helper()
	if node, to, e := Read(text); node != 0 || to != 0 || e != api.ErrText {
		t.Errorf("Read(%q) = %d, %d, %d", text, node, to, e)
	}
}

func TestWrittenIsReadBack(t *testing.T) {
	for _, l := range someLeases() {
		text := Write(l)
		if len(text) != Length {
			t.Errorf("Write(%+v) = %q", l, text)
		}
		if node, to, e := Read(text); node != l.Node || to != l.To || e != api.OK {
			t.Errorf("Read(%q) = %d, %d, %d; want those of %+v", text, node, to, e, l)
		}
	}
}

func TestWorkedRecord(t *testing.T) {
	// Time 1, Node 2 and Seq 4095: the last number that is below 2.
	if text := Write(api.Lease{Node: 2, From: 0, To: 2}); text != "0000000040BZZ" {
		t.Errorf("%q", text)
	}
	if text := Write(api.Lease{Node: api.Nodes - 1, From: 0, To: api.MaxTime}); text != "7ZZZZZZZZZZZZ" {
		t.Errorf("%q", text)
	}
}

func TestBeginningsOfRecords(t *testing.T) {
	for _, l := range someLeases() {
		text := Write(l)
		for cut := range Length {
			if !Begins(text[:cut]) {
				t.Errorf("Begins(%q) is false", text[:cut])
			}
			checkNone(t, text[:cut])
		}
	}
}

func TestNoBeginnings(t *testing.T) {
	for _, text := range []string{
		"8", "Z", "z", "o", "I", "L", "U", " ", "\n", "\x00", "\xff", "-", "\u00e9",
		"0000000040a", "000000004U", "00000000408", "00000000400", "0000000040BA", "0000000040bZ", "0000000040Bz", "0000000040B\n",
	} {
		if Begins(text) {
			t.Errorf("Begins(%q) is true", text)
		}
	}
}

// A number has many texts that ParseShort reads, but a record has one.
func TestNoRecords(t *testing.T) {
	for _, text := range []string{
		"", "0", "0000000040BZ", "00000000040BZZ", "0000000040BZZ\n", "0000000040BZZ0000000040BZZ",
		"0000000040bZZ", "0000000040BZz", "oooooooo4oBZZ", "OOOOOOOO4OBZZ", "I000000040BZZ", "l000000040BZZ",
		"8000000040BZZ", "ZZZZZZZZZZZZZ", "G000000040BZZ",
		"0000000040803", "0000000040BZY", "0000000040BYZ", "00000000408ZZ", "00000000409ZZ", "0000000040AZZ", "0000000000000",
		"U000000040BZZ", "0000000040BZU", "             ", "\x00\x00\x00\x00\x00\x00\x00\x00\x00\x00\x00\x00\x00",
		strings.Repeat("Z", 100000),
	} {
		checkNone(t, text)
	}
}
