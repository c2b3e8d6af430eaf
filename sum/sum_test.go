package sum

import (
	"bytes"
	"math/rand"
	"testing"

	"bottlepost/api"
)

// long answers a block of n bytes that tell their places.
func long(n int) api.Block {
	b := make(api.Block, n)
	for i := range b {
		b[i] = byte(i + 1)
	}
	return b
}

// wrong lists what Check refuses; Add must refuse it by the same error.
var wrong = []struct {
	name string
	l    []api.Block
	want api.Errno
}{
	{"nil alone", []api.Block{nil}, api.ErrMany},
	{"empty alone", []api.Block{{}}, api.ErrMany},
	{"all empty", []api.Block{{}, nil, {}}, api.ErrMany},
	{"one byte too many", []api.Block{long(api.MaxBlock + 1)}, api.ErrMany},
	{"far too many", []api.Block{long(1000)}, api.ErrMany},
	{"all one byte too many", []api.Block{long(api.MaxBlock + 1), long(api.MaxBlock + 1)}, api.ErrMany},
	{"second longer", []api.Block{long(1), long(2)}, api.ErrForm},
	{"second shorter", []api.Block{long(2), long(1)}, api.ErrForm},
	{"last unlike", []api.Block{long(3), long(3), long(3), long(4)}, api.ErrForm},
	{"like the one ahead, not the first", []api.Block{long(3), long(2), long(2)}, api.ErrForm},
	{"second empty: the length is told first", []api.Block{long(1), {}}, api.ErrMany},
	{"second too long: the length is told first", []api.Block{long(1), long(api.MaxBlock + 1)}, api.ErrMany},
	{"first too long, second fit", []api.Block{long(api.MaxBlock + 1), long(1)}, api.ErrMany},
	{"unlike ahead of empty", []api.Block{long(1), long(2), {}}, api.ErrForm},
	{"empty ahead of unlike", []api.Block{long(1), {}, long(2)}, api.ErrMany},
	{"unlike ahead of too long", []api.Block{long(1), long(2), long(api.MaxBlock + 1)}, api.ErrForm},
}

func TestCheckRefuses(t *testing.T) {
	for _, c := range wrong {
		if e := Check(c.l...); e != c.want {
			t.Errorf("%s: %d, want %d", c.name, e, c.want)
		}
	}
}

func TestCheckTakes(t *testing.T) {
	if e := Check(); e != api.OK {
		t.Errorf("no block: %d, want OK", e)
	}
	for n := 1; n <= api.MaxBlock; n++ {
		if e := Check(long(n)); e != api.OK {
			t.Errorf("one of %d bytes: %d, want OK", n, e)
		}
		if e := Check(long(n), make(api.Block, n), long(n)); e != api.OK {
			t.Errorf("three of %d bytes: %d, want OK", n, e)
		}
	}
	many := make([]api.Block, 5000)
	for i := range many {
		many[i] = long(2)
	}
	if e := Check(many...); e != api.OK {
		t.Errorf("many: %d, want OK", e)
	}
}

func TestAddRefuses(t *testing.T) {
	for _, c := range wrong {
		if s, e := Add(c.l...); e != c.want || s != nil {
			t.Errorf("%s: %v %d, want no block and %d", c.name, s, e, c.want)
		}
	}
	if s, e := Add(); e != api.ErrShort || s != nil {
		t.Errorf("no block: %v %d, want no block and ErrShort", s, e)
	}
	if s, e := Add([]api.Block{}...); e != api.ErrShort || s != nil {
		t.Errorf("empty list: %v %d, want no block and ErrShort", s, e)
	}
}

func TestAdd(t *testing.T) {
	cases := []struct {
		name string
		l    []api.Block
		want api.Block
	}{
		{"one alone", []api.Block{{7, 0, 255}}, api.Block{7, 0, 255}},
		{"noughts alone", []api.Block{{0, 0}}, api.Block{0, 0}},
		{"two", []api.Block{{0x0f, 0x55}, {0xff, 0xaa}}, api.Block{0xf0, 0xff}},
		{"no carry", []api.Block{{0x80, 1}, {0x80, 1}, {0x80, 1}}, api.Block{0x80, 1}},
		{"three", []api.Block{{1, 2}, {3, 2}, {4, 9}}, api.Block{6, 9}},
		{"one byte", []api.Block{{1}, {2}, {4}, {8}}, api.Block{15}},
		{"as long as may be", []api.Block{long(api.MaxBlock), make(api.Block, api.MaxBlock)}, long(api.MaxBlock)},
	}
	for _, c := range cases {
		if s, e := Add(c.l...); e != api.OK || !bytes.Equal(s, c.want) {
			t.Errorf("%s: %v %d, want %v", c.name, s, e, c.want)
		}
	}
}

// oddBits is the chapter's sentence by itself: each bit set that an odd number of them has set.
func oddBits(l []api.Block) api.Block {
	want := make(api.Block, len(l[0]))
	for bit := range 8 * len(want) {
		n := 0
		for _, b := range l {
			n += int(b[bit/8] >> (bit % 8) & 1)
		}
		want[bit/8] |= byte(n%2) << (bit % 8)
	}
	return want
}

func randomBlocks(r *rand.Rand) []api.Block {
	n := 1 + r.Intn(api.MaxBlock)
	l := make([]api.Block, 1+r.Intn(9))
	for i := range l {
		l[i] = make(api.Block, n)
		r.Read(l[i])
	}
	return l
}

func TestAddSetsOddBits(t *testing.T) {
	r := rand.New(rand.NewSource(1))
	for range 500 {
		l := randomBlocks(r)
		if s, e := Add(l...); e != api.OK || !bytes.Equal(s, oddBits(l)) {
			t.Fatalf("%v: %v %d, want %v", l, s, e, oddBits(l))
		}
	}
}

func TestAddedTwiceIsNotThere(t *testing.T) {
	r := rand.New(rand.NewSource(2))
	for range 500 {
		l := randomBlocks(r)
		once, _ := Add(l...)
		twice := make(api.Block, len(l[0]))
		r.Read(twice)
		more := append([]api.Block{twice}, l...)
		more = append(more, twice)
		if s, e := Add(more...); e != api.OK || !Same(s, once) {
			t.Fatalf("%v twice with %v: %v %d, want %v", twice, l, s, e, once)
		}
		if s, e := Add(twice, twice); e != api.OK || !Same(s, make(api.Block, len(twice))) {
			t.Fatalf("%v with itself: %v %d, want noughts", twice, s, e)
		}
	}
}

func TestAddOnlyReads(t *testing.T) {
	room := api.Block{1, 2, 9, 9}
	l := make([]api.Block, 2, 3)
	l[0], l[1] = room[:2], api.Block{3, 4}
	spare := api.Block{5}
	l[:3][2] = spare
	s, e := Add(l...)
	if e != api.OK || !bytes.Equal(s, api.Block{2, 6}) {
		t.Fatalf("sum: %v %d", s, e)
	}
	if !bytes.Equal(room, api.Block{1, 2, 9, 9}) || !bytes.Equal(l[1], api.Block{3, 4}) {
		t.Errorf("a block was changed: %v %v", room, l[1])
	}
	if &l[:3][2][0] != &spare[0] || spare[0] != 5 {
		t.Errorf("the room behind the list was changed: %v", l[:3][2])
	}
}

func TestAddAnswersNewMemory(t *testing.T) {
	one := make(api.Block, 2, 8)
	one[0], one[1] = 1, 2
	s, _ := Add(one)
	again, _ := Add(one)
	for i := range s[:cap(s)] {
		s[:cap(s)][i] = 77
	}
	if !bytes.Equal(one[:cap(one)], api.Block{1, 2, 0, 0, 0, 0, 0, 0}) {
		t.Errorf("the sum shares what was handed in: %v", one[:cap(one)])
	}
	if !bytes.Equal(again, api.Block{1, 2}) {
		t.Errorf("two answers share memory: %v", again)
	}
}

func TestSame(t *testing.T) {
	cases := []struct {
		name string
		a, b api.Block
		want bool
	}{
		{"alike", api.Block{1, 2}, api.Block{1, 2}, true},
		{"both nil", nil, nil, true},
		{"nil and empty", nil, api.Block{}, true},
		{"both too long, alike", long(40), long(40), true},
		{"both too long, the last byte another", long(40), append(long(39), 0), false},
		{"first byte another", api.Block{1, 2}, api.Block{3, 2}, false},
		{"last byte another", api.Block{1, 2}, api.Block{1, 3}, false},
		{"longer by a nought", api.Block{1, 0}, api.Block{1}, false},
		{"nil and a nought", nil, api.Block{0}, false},
		{"spare room is no part", api.Block{1, 2}[:1], api.Block{1, 3}[:1], true},
	}
	for _, c := range cases {
		if got := Same(c.a, c.b); got != c.want {
			t.Errorf("%s: %v, want %v", c.name, got, c.want)
		}
		if got := Same(c.b, c.a); got != c.want {
			t.Errorf("%s, the other way round: %v, want %v", c.name, got, c.want)
		}
	}
}
