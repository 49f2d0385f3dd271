package letters

import (
	"sync"
	"testing"

	"stamps/api"
)

// The first to ask may be many at a time: none of them is to see the table half filled.
// (It stands first, so that nobody has asked before.)
func TestTableIsWholeForAllWhoAskFirst(t *testing.T) {
	var askers sync.WaitGroup
	for range 64 {
		askers.Go(func() {
			for _, letter := range []byte("zL0uU") {
				checkTabled(t, letter)
			}
		})
	}
	askers.Wait()
}

// checkTabled holds what the table tells against what the function tells.
func checkTabled(t *testing.T, letter byte) {
	t.Helper()
	want, wantErr := worth(letter), api.OK
	if want == none {
		want, wantErr = 0, api.ErrText
	}
	if tabled, e := Tabled(letter); tabled != want || e != wantErr {
		t.Errorf("of the byte %d the function tells %d, %d, the table %d, %d", letter, want, wantErr, tabled, e)
	}
}

func TestFunctionTellsWhatTheTableTells(t *testing.T) {
	for b := range 256 {
		checkTabled(t, byte(b))
	}
}

func TestThereAreNoOtherLetters(t *testing.T) {
	letters := 0
	for b := range 256 {
		if worth(byte(b)) != none {
			letters++
		}
	}
	// Ten digits, and the 26 letters but U, small and great.
	if letters != 10+2*25 {
		t.Errorf("%d letters", letters)
	}
}

// What is read hangs on the function alone: a table that tells otherwise changes nothing.
func TestReadWorksWithoutTheTable(t *testing.T) {
	Tabled('0')
	whole := table
	defer func() { table = whole }()
	table = [128]uint8{}
	if n, e := Read("oooooooo4o8o3"); n != 4202499 || e != api.OK {
		t.Errorf("read %d, %d", n, e)
	}
	if n, e := Read("000000000000U"); n != 0 || e != api.ErrText {
		t.Errorf("read %d, %d", n, e)
	}
}
