package bit_test

import (
	"fmt"
	"math"
	"testing"

	"syndrome/api"
	"syndrome/bit"
	"syndrome/hold"
)

func TestBits(t *testing.T) {
	for _, c := range []struct {
		list        []int
		many        int
		all         bool
		bits, heard api.Errno
	}{
		{nil, 0, true, api.OK, api.OK},
		{nil, 1, true, api.ErrCount, api.ErrCount},
		{[]int{1, 0}, 2, true, api.OK, api.OK},
		{[]int{1, 0}, 1, true, api.ErrCount, api.ErrCount},
		{[]int{1, 0}, -2, true, api.ErrCount, api.ErrCount},
		{[]int{1, bit.Lost}, 2, false, api.ErrValue, api.OK},
		{[]int{-1, -1, -1}, 3, false, api.ErrValue, api.OK},
		{[]int{-1, 2, -1}, 3, false, api.ErrValue, api.ErrValue},
		{[]int{-2, 0}, 2, false, api.ErrValue, api.ErrValue},
		{[]int{2}, 2, false, api.ErrCount, api.ErrCount},
		{[]int{math.MinInt}, 1, false, api.ErrValue, api.ErrValue},
		{[]int{0, math.MaxInt}, 2, false, api.ErrValue, api.ErrValue},
	} {
		what := fmt.Sprint(c.list, c.many)
		hold.Same(t, "All "+what, bit.All(c.list), c.all)
		hold.Same(t, "Check "+what, bit.Check(c.list, c.many), c.bits)
		hold.Same(t, "CheckHeard "+what, bit.CheckHeard(c.list, c.many), c.heard)
	}
}
