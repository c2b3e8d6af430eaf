package cut

import (
	"bytes"
	"math"
	"math/rand"
	"slices"
	"testing"

	"bottlepost/api"
)

// count answers n bytes that tell their places, none of them a nought.
func count(n int) []byte {
	b := make([]byte, n)
	for i := range b {
		b[i] = byte(i%255 + 1)
	}
	return b
}

// alike says whether two lists have the same blocks.
func alike(a, b []api.Block) bool {
	return slices.EqualFunc(a, b, func(x, y api.Block) bool { return bytes.Equal(x, y) })
}

// wrong lists plans that Check refuses; Cut and Join must refuse them by the same error.
var wrong = []struct {
	p    api.Plan
	want api.Errno
}{
	{api.Plan{}, api.ErrRange},
	{api.Plan{Bytes: 0, Block: 1}, api.ErrRange},
	{api.Plan{Bytes: 1, Block: 0}, api.ErrRange},
	{api.Plan{Bytes: -1, Block: 1}, api.ErrRange},
	{api.Plan{Bytes: 1, Block: -1}, api.ErrRange},
	{api.Plan{Bytes: -4, Block: -2}, api.ErrRange},
	{api.Plan{Bytes: api.MaxBytes + 1, Block: api.MaxBlock}, api.ErrRange},
	{api.Plan{Bytes: 1, Block: api.MaxBlock + 1}, api.ErrRange},
	{api.Plan{Bytes: math.MaxInt, Block: 2}, api.ErrRange},
	{api.Plan{Bytes: 2, Block: math.MaxInt}, api.ErrRange},
	{api.Plan{Bytes: math.MaxInt, Block: math.MaxInt}, api.ErrRange},
	{api.Plan{Bytes: math.MinInt, Block: math.MinInt}, api.ErrRange},
	// Too many blocks, too: the range is told first.
	{api.Plan{Bytes: api.MaxBytes + 1, Block: 1}, api.ErrRange},
	{api.Plan{Bytes: api.MaxBytes, Block: 0}, api.ErrRange},
	{api.Plan{Bytes: api.MaxBlocks + 1, Block: 1}, api.ErrMany},
	{api.Plan{Bytes: api.MaxBytes, Block: 1}, api.ErrMany},
	{api.Plan{Bytes: api.MaxBlocks*2 + 1, Block: 2}, api.ErrMany},
	{api.Plan{Bytes: api.MaxBytes, Block: 14}, api.ErrMany},
}

func TestCheckRefuses(t *testing.T) {
	for _, c := range wrong {
		if e := Check(c.p); e != c.want {
			t.Errorf("%v: %d, want %d", c.p, e, c.want)
		}
	}
}

func TestCheckTakes(t *testing.T) {
	fit := []api.Plan{
		{Bytes: 1, Block: 1},
		{Bytes: 1, Block: api.MaxBlock},
		{Bytes: api.MaxBlocks, Block: 1},
		{Bytes: api.MaxBlocks * 2, Block: 2},
		{Bytes: api.MaxBytes, Block: 15},
		{Bytes: api.MaxBytes, Block: api.MaxBlock},
	}
	for _, p := range fit {
		if e := Check(p); e != api.OK {
			t.Errorf("%v: %d, want OK", p, e)
		}
	}
}

// needed counts blocks one by one, as the chapter says it.
func needed(p api.Plan) int {
	n := 0
	for held := 0; held < p.Bytes; held += p.Block {
		n++
	}
	return n
}

func TestBlocks(t *testing.T) {
	for size := 1; size <= api.MaxBytes+40; size++ {
		for block := 1; block <= api.MaxBlock+5; block++ {
			p := api.Plan{Bytes: size, Block: block}
			if n := Blocks(p); n != needed(p) {
				t.Errorf("%v: %d, want %d", p, n, needed(p))
			}
		}
	}
}

func TestBlocksOfAnyNumbers(t *testing.T) {
	cases := []struct {
		p    api.Plan
		want int
	}{
		{api.Plan{}, 0},
		{api.Plan{Bytes: 0, Block: 3}, 0},
		{api.Plan{Bytes: 3, Block: 0}, 0},
		{api.Plan{Bytes: -3, Block: 1}, 0},
		{api.Plan{Bytes: 3, Block: -1}, 0},
		{api.Plan{Bytes: -4, Block: -2}, 0},
		{api.Plan{Bytes: math.MinInt, Block: -1}, 0},
		{api.Plan{Bytes: math.MinInt, Block: math.MaxInt}, 0},
		{api.Plan{Bytes: math.MaxInt, Block: 1}, math.MaxInt},
		{api.Plan{Bytes: math.MaxInt, Block: 2}, math.MaxInt/2 + 1},
		{api.Plan{Bytes: math.MaxInt, Block: math.MaxInt}, 1},
		{api.Plan{Bytes: math.MaxInt, Block: math.MaxInt - 1}, 2},
		{api.Plan{Bytes: 1, Block: math.MaxInt}, 1},
	}
	for _, c := range cases {
		if n := Blocks(c.p); n != c.want {
			t.Errorf("%v: %d, want %d", c.p, n, c.want)
		}
	}
}

func TestCut(t *testing.T) {
	cases := []struct {
		p     api.Plan
		cargo []byte
		want  []api.Block
	}{
		{api.Plan{Bytes: 5, Block: 2}, []byte{1, 2, 3, 4, 5}, []api.Block{{1, 2}, {3, 4}, {5, 0}}},
		{api.Plan{Bytes: 4, Block: 2}, []byte{1, 2, 3, 4}, []api.Block{{1, 2}, {3, 4}}},
		{api.Plan{Bytes: 3, Block: 1}, []byte{7, 8, 9}, []api.Block{{7}, {8}, {9}}},
		{api.Plan{Bytes: 1, Block: 4}, []byte{255}, []api.Block{{255, 0, 0, 0}}},
		{api.Plan{Bytes: 4, Block: 3}, []byte{0, 0, 0, 0}, []api.Block{{0, 0, 0}, {0, 0, 0}}},
	}
	for _, c := range cases {
		if l, e := Cut(c.p, c.cargo); e != api.OK || !alike(l, c.want) {
			t.Errorf("%v of %v: %v %d, want %v", c.p, c.cargo, l, e, c.want)
		}
		if b, e := Join(c.p, c.want); e != api.OK || !bytes.Equal(b, c.cargo) {
			t.Errorf("%v of %v: %v %d, want %v", c.p, c.want, b, e, c.cargo)
		}
	}
}

func TestCutRefuses(t *testing.T) {
	for _, c := range wrong {
		// Cargos that fit the plan and others: the plan's error is told first.
		for _, n := range []int{0, 1, 25, api.MaxBytes, api.MaxBytes + 1} {
			if l, e := Cut(c.p, count(n)); e != c.want || l != nil {
				t.Errorf("%v of %d bytes: %v %d, want no blocks and %d", c.p, n, l, e, c.want)
			}
		}
	}
	p := api.Plan{Bytes: 5, Block: 2}
	for _, n := range []int{0, 1, 4, 6, 1000} {
		if l, e := Cut(p, count(n)); e != api.ErrForm || l != nil {
			t.Errorf("%d bytes for 5: %v %d, want no blocks and ErrForm", n, l, e)
		}
	}
	if l, e := Cut(p, nil); e != api.ErrForm || l != nil {
		t.Errorf("nil: %v %d, want no blocks and ErrForm", l, e)
	}
	if l, e := Cut(p, count(9)[:4]); e != api.ErrForm || l != nil {
		t.Errorf("bytes in the spare room: %v %d, want no blocks and ErrForm", l, e)
	}
}

func TestJoinRefusesPlans(t *testing.T) {
	lists := [][]api.Block{nil, {}, {{}}, {nil}, {{1}}, {{1, 2}, {3}}, make([]api.Block, 25)}
	for _, c := range wrong {
		for _, l := range lists {
			if b, e := Join(c.p, l); e != c.want || b != nil {
				t.Errorf("%v of %v: %v %d, want no bytes and %d", c.p, l, b, e, c.want)
			}
		}
	}
}

func TestJoinRefusesBlocks(t *testing.T) {
	p := api.Plan{Bytes: 7, Block: 3}
	cases := []struct {
		name string
		l    []api.Block
		want api.Errno
	}{
		{"nil", nil, api.ErrShort},
		{"empty", []api.Block{}, api.ErrShort},
		{"one too few", []api.Block{{1, 2, 3}, {4, 5, 6}}, api.ErrShort},
		{"one too many", []api.Block{{1, 2, 3}, {4, 5, 6}, {7, 0, 0}, {0, 0, 0}}, api.ErrShort},
		{"the last in the spare room", []api.Block{{1, 2, 3}, {4, 5, 6}, {7, 0, 0}}[:2], api.ErrShort},
		{"too few, and one of another length: told first", []api.Block{{1, 2, 3}, {4, 5}}, api.ErrShort},
		{"too many, and something behind: told first", []api.Block{{1, 2, 3}, {4, 5, 6}, {7, 8, 9}, {1, 1, 1}}, api.ErrShort},
		{"first short", []api.Block{{1, 2}, {4, 5, 6}, {7, 0, 0}}, api.ErrForm},
		{"second long", []api.Block{{1, 2, 3}, {4, 5, 6, 0}, {7, 0, 0}}, api.ErrForm},
		{"last has the cargo's bytes alone", []api.Block{{1, 2, 3}, {4, 5, 6}, {7}}, api.ErrForm},
		{"last empty", []api.Block{{1, 2, 3}, {4, 5, 6}, {}}, api.ErrForm},
		{"last nil", []api.Block{{1, 2, 3}, {4, 5, 6}, nil}, api.ErrForm},
		{"last long by a nought", []api.Block{{1, 2, 3}, {4, 5, 6}, {7, 0, 0, 0}}, api.ErrForm},
		{"as many bytes in all, cut otherwise", []api.Block{{1, 2, 3, 4}, {5, 6}, {7, 0, 0}}, api.ErrForm},
		{"something right behind", []api.Block{{1, 2, 3}, {4, 5, 6}, {7, 1, 0}}, api.ErrForm},
		{"something at the very end", []api.Block{{1, 2, 3}, {4, 5, 6}, {7, 0, 128}}, api.ErrForm},
	}
	for _, c := range cases {
		if b, e := Join(p, c.l); e != c.want || b != nil {
			t.Errorf("%s: %v %d, want no bytes and %d", c.name, b, e, c.want)
		}
	}
}

func TestSpareRoomOfABlockIsNoPart(t *testing.T) {
	last := api.Block{7, 0, 0, 9}
	if b, e := Join(api.Plan{Bytes: 4, Block: 3}, []api.Block{{1, 2, 3}, last[:3]}); e != api.OK || !bytes.Equal(b, []byte{1, 2, 3, 7}) {
		t.Errorf("%v %d", b, e)
	}
}

// everyPlan calls f with each plan that Check takes.
func everyPlan(f func(p api.Plan)) {
	for size := 1; size <= api.MaxBytes; size++ {
		for block := 1; block <= api.MaxBlock; block++ {
			if p := (api.Plan{Bytes: size, Block: block}); Check(p) == api.OK {
				f(p)
			}
		}
	}
}

func TestJoinOfCutIsTheCargo(t *testing.T) {
	r := rand.New(rand.NewSource(1))
	everyPlan(func(p api.Plan) {
		cargo := make([]byte, p.Bytes)
		r.Read(cargo)
		l, e := Cut(p, cargo)
		if e != api.OK || len(l) != Blocks(p) {
			t.Fatalf("%v: cut: %d blocks, %d", p, len(l), e)
		}
		// What is cut is the cargo and noughts, whatever Join makes of it.
		padded := append(bytes.Clone(cargo), make([]byte, len(l)*p.Block-p.Bytes)...)
		if !bytes.Equal(slices.Concat(l...), padded) {
			t.Fatalf("%v: cut: %v, want %v", p, l, padded)
		}
		if b, e := Join(p, l); e != api.OK || !bytes.Equal(b, cargo) {
			t.Fatalf("%v: join: %v %d, want %v", p, b, e, cargo)
		}
	})
}

func TestCutOfJoinIsTheBlocks(t *testing.T) {
	r := rand.New(rand.NewSource(2))
	everyPlan(func(p api.Plan) {
		l := make([]api.Block, Blocks(p))
		for i := range l {
			l[i] = make(api.Block, p.Block)
			r.Read(l[i])
		}
		last := len(l) - 1
		clear(l[last][p.Bytes-last*p.Block:])
		b, e := Join(p, l)
		if e != api.OK {
			t.Fatalf("%v: join: %d", p, e)
		}
		if again, e := Cut(p, b); e != api.OK || !alike(again, l) {
			t.Fatalf("%v: cut: %v %d, want %v", p, again, e, l)
		}
	})
}

func TestOneByteBehindIsRefused(t *testing.T) {
	everyPlan(func(p api.Plan) {
		l, _ := Cut(p, count(p.Bytes))
		for at := p.Bytes; at < len(l)*p.Block; at++ {
			l[at/p.Block][at%p.Block] = 1
			if b, e := Join(p, l); e != api.ErrForm || b != nil {
				t.Fatalf("%v, byte %d: %v %d, want no bytes and ErrForm", p, at, b, e)
			}
			l[at/p.Block][at%p.Block] = 0
		}
	})
}

func TestCutOnlyReadsAndAnswersNewMemory(t *testing.T) {
	p := api.Plan{Bytes: 5, Block: 2}
	room := []byte{1, 2, 3, 4, 5, 77, 78}
	l, e := Cut(p, room[:5])
	if e != api.OK || !alike(l, []api.Block{{1, 2}, {3, 4}, {5, 0}}) {
		t.Fatalf("cut: %v %d", l, e)
	}
	if !bytes.Equal(room, []byte{1, 2, 3, 4, 5, 77, 78}) {
		t.Errorf("what was handed in was changed: %v", room)
	}
	for i := range l {
		whole := l[i][:cap(l[i])]
		for j := range whole {
			whole[j] = byte(100 + i)
		}
	}
	if !alike(l, []api.Block{{100, 100}, {101, 101}, {102, 102}}) {
		t.Errorf("blocks share memory: %v", l)
	}
	if !bytes.Equal(room, []byte{1, 2, 3, 4, 5, 77, 78}) {
		t.Errorf("the blocks share what was handed in: %v", room)
	}
}

func TestJoinOnlyReadsAndAnswersNewMemory(t *testing.T) {
	for _, p := range []api.Plan{{Bytes: 4, Block: 2}, {Bytes: 3, Block: 2}, {Bytes: 2, Block: 2}} {
		room := []byte{1, 2, 3, 0, 77, 78}
		if p.Bytes == 4 {
			room[3] = 4
		}
		before := bytes.Clone(room)
		spare := api.Block{9}
		l := []api.Block{room[:2], room[2:4], spare}
		b, e := Join(p, l[:Blocks(p)])
		if e != api.OK || !bytes.Equal(b, before[:p.Bytes]) {
			t.Fatalf("%v: join: %v %d", p, b, e)
		}
		for i := range b[:cap(b)] {
			b[:cap(b)][i] = 99
		}
		if !bytes.Equal(room, before) {
			t.Errorf("%v: what was handed in was changed, or is shared: %v", p, room)
		}
		if len(l[2]) != 1 || &l[2][0] != &spare[0] || spare[0] != 9 {
			t.Errorf("%v: the room behind the list was changed: %v", p, l[2])
		}
	}
}
