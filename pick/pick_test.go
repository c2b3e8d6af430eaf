package pick

import (
	"math"
	"slices"
	"testing"

	"bottlepost/api"
)

// marks answers a list of n that is true at these places alone.
func marks(n int, at ...int) []bool {
	l := make([]bool, n)
	for _, i := range at {
		l[i] = true
	}
	return l
}

// count answers how many are true.
func count(l []bool) int {
	n := 0
	for _, in := range l {
		if in {
			n++
		}
	}
	return n
}

func TestOfRefuses(t *testing.T) {
	cases := []struct{ id, blocks int }{
		{-1, 3},
		{api.MaxID + 1, 3},
		{0, 0},
		{1, 0},
		{0, -1},
		{1, api.MaxBlocks + 1},
		{api.MaxID, api.MaxBlocks + 1},
		{-1, 0},
		{api.MaxID + 1, api.MaxBlocks + 1},
		{math.MinInt, 1},
		{math.MaxInt, 1},
		{1, math.MinInt},
		{1, math.MaxInt},
		{math.MinInt, math.MaxInt},
		{math.MaxInt, math.MinInt},
	}
	for _, c := range cases {
		if l, e := Of(c.id, c.blocks); e != api.ErrRange || l != nil {
			t.Errorf("%d of %d: %v %d, want no list and ErrRange", c.id, c.blocks, l, e)
		}
	}
}

func TestBelowBlocksThatOneAlone(t *testing.T) {
	for blocks := 1; blocks <= api.MaxBlocks; blocks++ {
		for id := range blocks {
			if l, e := Of(id, blocks); e != api.OK || !slices.Equal(l, marks(blocks, id)) {
				t.Errorf("%d of %d: %v %d, want that one alone", id, blocks, l, e)
			}
		}
	}
}

// The symbols whose rows begin nearest to the numbers at which there is one block more, and others, worked out apart from the program.
func TestOf(t *testing.T) {
	cases := []struct {
		id, blocks int
		want       []int
	}{
		{3, 3, []int{1, 2}},
		{7, 3, []int{0, 2}},
		{24, 24, []int{2, 16}},
		{40, 24, []int{4, 9, 15, 21}},
		{40, 1, []int{0}},
		{api.MaxID, 24, []int{9, 21}},
		{api.MaxID, 1, []int{0}},
		{6312, 24, []int{2}},                // begins with 1
		{1710, 24, []int{16}},               // 8191
		{7324, 24, []int{7, 16}},            // 8197
		{7324, 3, []int{1, 2}},              // a block comes again: it counts once
		{8890, 24, []int{5, 10}},            // 40955
		{4517, 24, []int{10, 16, 21}},       // 40962
		{4517, 2, []int{0, 1}},              // three of two
		{8368, 24, []int{5, 15, 20}},        // 51881
		{5300, 24, []int{3, 18, 22, 23}},    // 57341
		{5300, 3, []int{0, 1, 2}},           // four of three
		{927, 24, []int{4, 6, 8, 9, 11}},    // 57348
		{927, 5, []int{0, 1, 2, 3, 4}},      // five of five
		{339, 24, []int{5, 10, 11, 15, 20}}, // 60616
		{339, 2, []int{0, 1}},               // five of two
		{5953, 5, []int{0, 3}},              // 60622: half of five, the half left out
		{5953, 3, []int{0}},                 // half of three
		{5953, 2, []int{1}},                 // half of two
		{5953, 1, []int{0}},                 // one at least
		{698, 5, []int{0, 1}},               // 65531
		{5953, 24, []int{2, 3, 7, 8, 14, 16, 18, 19, 20, 21, 22, 23}},
		{698, 24, []int{0, 1, 3, 4, 7, 8, 9, 11, 13, 14, 15, 21}},
	}
	for _, c := range cases {
		if l, e := Of(c.id, c.blocks); e != api.OK || !slices.Equal(l, marks(c.blocks, c.want...)) {
			t.Errorf("%d of %d: %v %d, want those at %v", c.id, c.blocks, l, e, c.want)
		}
	}
}

func TestHowMany(t *testing.T) {
	cases := []struct{ from, below, want int }{
		{0, 8192, 1},
		{8192, 40960, 2},
		{40960, 51882, 3},
		{51882, 57344, 4},
		{57344, 60621, 5},
	}
	for blocks := 1; blocks <= api.MaxBlocks; blocks++ {
		for _, c := range cases {
			for _, x := range []int{c.from, (c.from + c.below) / 2, c.below - 1} {
				if n := howMany(x, blocks); n != min(c.want, blocks) {
					t.Errorf("%d of %d: %d, want %d", x, blocks, n, min(c.want, blocks))
				}
			}
		}
		half := max(1, (blocks-blocks%2)/2)
		for _, x := range []int{60621, 63000, 65535} {
			if n := howMany(x, blocks); n != half {
				t.Errorf("%d of %d: %d, want %d", x, blocks, n, half)
			}
		}
	}
}

// told answers how many blocks the chapter says a symbol has; its numbers wrap round by themselves.
func told(id, blocks int) int {
	if id < blocks {
		return 1
	}
	switch first := uint16(id)*1109 + 12345; {
	case first < 8192:
		return 1
	case first < 40960:
		return min(2, blocks)
	case first < 51882:
		return min(3, blocks)
	case first < 57344:
		return min(4, blocks)
	case first < 60621:
		return min(5, blocks)
	}
	return max(1, blocks/2)
}

// row answers which blocks are in when the row of a symbol has come by n of them.
func row(id, blocks, n int) []bool {
	seen := make([]bool, blocks)
	x := uint16(id)*1109 + 12345
	for count(seen) < n {
		x = x*1109 + 12345
		seen[int(x/7)%blocks] = true
	}
	return seen
}

func TestEachSymbolHasAsManyAsTold(t *testing.T) {
	for blocks := 1; blocks <= api.MaxBlocks; blocks++ {
		for id := 0; id <= api.MaxID; id++ {
			l, e := Of(id, blocks)
			if e != api.OK || len(l) != blocks {
				t.Fatalf("%d of %d: %v %d", id, blocks, l, e)
			}
			if n := count(l); n < 1 || n != told(id, blocks) {
				t.Fatalf("%d of %d: %d blocks, want %d", id, blocks, n, told(id, blocks))
			}
		}
	}
}

func TestTheFirstOfTheRowAreIn(t *testing.T) {
	for blocks := 1; blocks <= api.MaxBlocks; blocks++ {
		for id := blocks; id <= api.MaxID; id++ {
			want := row(id, blocks, told(id, blocks))
			if l, e := Of(id, blocks); e != api.OK || !slices.Equal(l, want) {
				t.Fatalf("%d of %d: %v %d, want %v", id, blocks, l, e, want)
			}
		}
	}
}

func TestOfAnswersNewMemory(t *testing.T) {
	for _, id := range []int{2, 40} {
		l, _ := Of(id, 24)
		before := slices.Clone(l)
		again, _ := Of(id, 24)
		for i := range l[:cap(l)] {
			l[:cap(l)][i] = true
		}
		if !slices.Equal(again, before) {
			t.Errorf("%d: two answers share memory: %v", id, again)
		}
		if third, e := Of(id, 24); e != api.OK || !slices.Equal(third, before) {
			t.Errorf("%d: asked again: %v %d, want %v", id, third, e, before)
		}
	}
}
