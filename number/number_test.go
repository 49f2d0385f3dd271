package number

import (
	"testing"

	"stamps/api"
)

func TestJoinIsUndoneBySplit(t *testing.T) {
	for _, time := range []int{0, 1, 2, 1000, api.MaxTime / 2, api.MaxTime - 1} {
		for _, node := range []int{0, 1, 2, api.Nodes / 2, api.Nodes - 1} {
			for _, seq := range []int{0, 1, 3, api.Seqs / 2, api.Seqs - 1} {
				p := api.Parts{Time: time, Node: node, Seq: seq}
				if n := Join(p); !Is(n) || Split(n) != p {
					t.Errorf("Join(%+v) = %d, of which the parts are %+v", p, n, Split(n))
				}
			}
		}
	}
}

func TestJoinOfWorkedParts(t *testing.T) {
	if n := Join(api.Parts{Time: 1, Node: 2, Seq: 3}); n != 4202499 {
		t.Errorf("Join = %d", n)
	}
	if n := Join(api.Parts{Time: api.MaxTime - 1, Node: api.Nodes - 1, Seq: api.Seqs - 1}); n != End-1 {
		t.Errorf("Join = %d", n)
	}
}
