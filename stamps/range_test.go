package stamps_test

import (
	"math"
	"testing"

	"stamps/api"
	"stamps/stamps"
)

func TestP3WorkedRanges(t *testing.T) {
	for _, c := range []struct {
		from, to      int
		first, second uint64
	}{
		{1, 2, 4194304, 8388608},
		{0, 0, 0, 0},
		{0, 1, 0, 4194304},
		{5, 5, 20971520, 20971520},
		{0, api.MaxTime, 0, end},
		{api.MaxTime - 1, api.MaxTime, end - 1<<22, end},
		{api.MaxTime - 1, api.MaxTime - 1, end - 1<<22, end - 1<<22},
		{api.MaxTime, api.MaxTime, end, end},
	} {
		if first, second, e := stamps.Range(c.from, c.to); first != c.first || second != c.second || e != api.OK {
			t.Errorf("Range(%d, %d) = %d, %d, %d; want %d, %d", c.from, c.to, first, second, e, c.first, c.second)
		}
	}
}

func TestP3WrongRanges(t *testing.T) {
	for _, c := range []struct{ from, to int }{
		{2, 1}, {1, 0}, {api.MaxTime, api.MaxTime - 1}, {api.MaxTime, 0},
		{-1, 0}, {-1, 1}, {-1, -1}, {-2, -1}, {0, -1},
		{0, api.MaxTime + 1}, {api.MaxTime + 1, api.MaxTime + 1}, {api.MaxTime + 1, api.MaxTime},
		{math.MinInt, math.MaxInt}, {math.MaxInt, math.MinInt}, {math.MinInt, 0}, {0, math.MaxInt},
		{math.MaxInt, math.MaxInt}, {math.MinInt, math.MinInt},
		{1 << 42, 1 << 42}, {0, 1 << 42}, {-1 << 42, 0},
	} {
		if first, second, e := stamps.Range(c.from, c.to); first != 0 || second != 0 || e != api.ErrRange {
			t.Errorf("Range(%d, %d) = %d, %d, %d", c.from, c.to, first, second, e)
		}
	}
}

func someTimes() []int {
	list := []int{0, 1, 2, 3, api.MaxTime}
	for bit := 2; bit <= 41; bit++ {
		list = append(list, 1<<bit-1, 1<<bit-2)
	}
	return list
}

// Just the numbers between the two have a time within: held against what Parts tells of them.
func TestP3AgreesWithParts(t *testing.T) {
	times := someTimes()
	for _, from := range times {
		for _, to := range times {
			if from <= to {
				checkRangeAgainstParts(t, from, to)
			}
		}
	}
}

func checkRangeAgainstParts(t *testing.T, from, to int) {
	t.Helper()
	first, second, e := stamps.Range(from, to)
	if e != api.OK {
		t.Fatalf("Range(%d, %d): error %d", from, to, e)
	}
	for _, n := range []uint64{0, first - 1, first, first + 1, first/2 + second/2, second - 1, second, second + 1, greatest} {
		p, e := stamps.Parts(n)
		if e != api.OK {
			continue
		}
		if (first <= n && n < second) != (from <= p.Time && p.Time < to) {
			t.Errorf("Range(%d, %d) = %d, %d, but %d has the time %d", from, to, first, second, n, p.Time)
		}
	}
}
