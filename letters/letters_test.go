package letters

import (
	"sync"
	"testing"

	"stamps/api"
)

// The first to ask may be many at a time: none of them is to see the table half filled.
// (It stands first, so that nobody has asked before.)
func TestTableIsWholeForAllWhoAskFirst(t *testing.T) {
	var readers sync.WaitGroup
	for range 64 {
		readers.Go(func() {
			if n, e := Read("7zzzzzzzzzzzz"); n != 1<<63-1 || e != api.OK {
				t.Errorf("read %d, %d", n, e)
			}
		})
	}
	readers.Wait()
}

func TestTableHasNoOtherLetters(t *testing.T) {
	letters := 0
	for b := range 256 {
		if worth(byte(b)) != none {
			letters++
		}
	}
	// Ten digits, and the 26 letters but U, small and great.
	if letters != 10+2*25 {
		t.Errorf("%d letters in the table", letters)
	}
}
