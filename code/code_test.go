package code

import (
	"bytes"
	"math"
	"math/rand"
	"testing"

	"bottlepost/api"
	"bottlepost/cut"
	"bottlepost/pick"
)

// count answers n bytes that tell their places, none of them a nought.
func count(n int) []byte {
	b := make([]byte, n)
	for i := range b {
		b[i] = byte(i%255 + 1)
	}
	return b
}

// zero says whether nothing is in a symbol.
func zero(s api.Symbol) bool {
	return s.ID == 0 && s.Data == nil
}

// wrong lists plans that chapter 2 refuses; Check and Make must refuse them by the same error.
var wrong = []struct {
	p    api.Plan
	want api.Errno
}{
	{api.Plan{}, api.ErrRange},
	{api.Plan{Bytes: 0, Block: 1}, api.ErrRange},
	{api.Plan{Bytes: 1, Block: 0}, api.ErrRange},
	{api.Plan{Bytes: -1, Block: 1}, api.ErrRange},
	{api.Plan{Bytes: 1, Block: -1}, api.ErrRange},
	{api.Plan{Bytes: api.MaxBytes + 1, Block: api.MaxBlock}, api.ErrRange},
	{api.Plan{Bytes: 1, Block: api.MaxBlock + 1}, api.ErrRange},
	{api.Plan{Bytes: math.MaxInt, Block: math.MaxInt}, api.ErrRange},
	{api.Plan{Bytes: math.MinInt, Block: math.MinInt}, api.ErrRange},
	{api.Plan{Bytes: api.MaxBlocks + 1, Block: 1}, api.ErrMany},
	{api.Plan{Bytes: api.MaxBytes, Block: 14}, api.ErrMany},
}

// noIDs lists numbers that no symbol has.
var noIDs = []int{-1, api.MaxID + 1, 65536, math.MinInt, math.MaxInt}

func TestCheckTakes(t *testing.T) {
	plans := []api.Plan{
		{Bytes: 1, Block: 1},
		{Bytes: 1, Block: api.MaxBlock},
		{Bytes: 5, Block: 2},
		{Bytes: api.MaxBlocks, Block: 1},
		{Bytes: api.MaxBytes, Block: 15},
		{Bytes: api.MaxBytes, Block: api.MaxBlock},
	}
	for _, p := range plans {
		for _, id := range []int{0, 1, 23, 24, api.MaxID} {
			// Any bytes will do: what the cargo is, a symbol alone doesn't say.
			for _, data := range []api.Block{make(api.Block, p.Block), count(p.Block)} {
				if e := Check(p, api.Symbol{ID: id, Data: data}); e != api.OK {
					t.Errorf("%v, number %d, %v: %d, want OK", p, id, data, e)
				}
			}
		}
	}
}

func TestCheckRefusesPlans(t *testing.T) {
	for _, c := range wrong {
		// Symbols that are wrong by themselves, too: the plan's error is told first.
		for _, id := range []int{0, 7, -1, api.MaxID + 1} {
			for _, n := range []int{0, 1, 14, 17} {
				if e := Check(c.p, api.Symbol{ID: id, Data: count(n)}); e != c.want {
					t.Errorf("%v, number %d, %d bytes: %d, want %d", c.p, id, n, e, c.want)
				}
			}
		}
	}
}

func TestCheckRefusesSymbols(t *testing.T) {
	p := api.Plan{Bytes: 7, Block: 3}
	for _, id := range noIDs {
		// The number is told ahead of the bytes.
		for _, n := range []int{0, 2, 3, 4} {
			if e := Check(p, api.Symbol{ID: id, Data: count(n)}); e != api.ErrRange {
				t.Errorf("number %d, %d bytes: %d, want ErrRange", id, n, e)
			}
		}
	}
	for _, id := range []int{0, 3, api.MaxID} {
		for _, data := range []api.Block{nil, {}, count(1), count(2), count(4), count(7), count(1000), count(3)[:2]} {
			if e := Check(p, api.Symbol{ID: id, Data: data}); e != api.ErrForm {
				t.Errorf("number %d, %d bytes: %d, want ErrForm", id, len(data), e)
			}
		}
	}
}

func TestCheckOnlyReads(t *testing.T) {
	room := api.Block{1, 2, 3, 77}
	if e := Check(api.Plan{Bytes: 7, Block: 3}, api.Symbol{ID: 5, Data: room[:3]}); e != api.OK {
		t.Errorf("%d, want OK", e)
	}
	if !bytes.Equal(room, api.Block{1, 2, 3, 77}) {
		t.Errorf("what was handed in was changed: %v", room)
	}
}

// The blocks that these symbols have are worked out apart from the program.
func TestMake(t *testing.T) {
	three := []byte{1, 2, 4}
	cases := []struct {
		p     api.Plan
		cargo []byte
		id    int
		want  api.Block
	}{
		{api.Plan{Bytes: 3, Block: 1}, three, 0, api.Block{1}},
		{api.Plan{Bytes: 3, Block: 1}, three, 1, api.Block{2}},
		{api.Plan{Bytes: 3, Block: 1}, three, 2, api.Block{4}},
		{api.Plan{Bytes: 3, Block: 1}, three, 3, api.Block{6}},    // the second and the third
		{api.Plan{Bytes: 3, Block: 1}, three, 7, api.Block{5}},    // the first and the third
		{api.Plan{Bytes: 3, Block: 1}, three, 5300, api.Block{7}}, // all of them
		{api.Plan{Bytes: 3, Block: 1}, three, 5953, api.Block{1}}, // half of them: the first
		{api.Plan{Bytes: 3, Block: 1}, []byte{5, 5, 5}, 7, api.Block{0}},
		// The last block has fewer bytes: behind them noughts are added.
		{api.Plan{Bytes: 5, Block: 2}, []byte{1, 2, 4, 8, 16}, 2, api.Block{16, 0}},
		{api.Plan{Bytes: 5, Block: 2}, []byte{1, 2, 4, 8, 16}, 3, api.Block{20, 8}},
		{api.Plan{Bytes: 5, Block: 2}, []byte{1, 2, 4, 8, 16}, 7, api.Block{17, 2}},
		// Of one block each symbol is that one.
		{api.Plan{Bytes: 1, Block: 4}, []byte{255}, 0, api.Block{255, 0, 0, 0}},
		{api.Plan{Bytes: 1, Block: 4}, []byte{255}, 40, api.Block{255, 0, 0, 0}},
		{api.Plan{Bytes: 1, Block: 4}, []byte{255}, api.MaxID, api.Block{255, 0, 0, 0}},
		// Of as many blocks as there may be: 23 the last alone, 24 those at 2 and 16, 9999 those at 9 and 21.
		{api.Plan{Bytes: 24, Block: 1}, count(24), 23, api.Block{24}},
		{api.Plan{Bytes: 24, Block: 1}, count(24), 24, api.Block{3 ^ 17}},
		{api.Plan{Bytes: 24, Block: 1}, count(24), api.MaxID, api.Block{10 ^ 22}},
	}
	for _, c := range cases {
		s, e := Make(c.p, c.cargo, c.id)
		if e != api.OK || s.ID != c.id || !bytes.Equal(s.Data, c.want) {
			t.Errorf("%v of %v, number %d: %v %d, want %v", c.p, c.cargo, c.id, s, e, c.want)
		}
	}
}

func TestMakeRefusesCargos(t *testing.T) {
	for _, c := range wrong {
		// Neither the cargo nor the number is told ahead of the plan.
		for _, n := range []int{0, 1, 25, api.MaxBytes} {
			for _, id := range []int{0, 7, -1, api.MaxID + 1} {
				if s, e := Make(c.p, count(n), id); e != c.want || !zero(s) {
					t.Errorf("%v of %d bytes, number %d: %v %d, want no symbol and %d", c.p, n, id, s, e, c.want)
				}
			}
		}
	}
	p := api.Plan{Bytes: 5, Block: 2}
	for _, cargo := range [][]byte{nil, {}, count(1), count(4), count(6), count(1000), count(5)[:4]} {
		// The number is told behind the cargo.
		for _, id := range []int{0, 7, -1, api.MaxID + 1} {
			if s, e := Make(p, cargo, id); e != api.ErrForm || !zero(s) {
				t.Errorf("%d bytes for 5, number %d: %v %d, want no symbol and ErrForm", len(cargo), id, s, e)
			}
		}
	}
}

func TestMakeRefusesNumbers(t *testing.T) {
	for _, p := range []api.Plan{{Bytes: 1, Block: 1}, {Bytes: 5, Block: 2}, {Bytes: api.MaxBytes, Block: 15}} {
		for _, id := range noIDs {
			if s, e := Make(p, count(p.Bytes), id); e != api.ErrRange || !zero(s) {
				t.Errorf("%v, number %d: %v %d, want no symbol and ErrRange", p, id, s, e)
			}
		}
	}
}

// everyPlan calls f with each plan that chapter 2 takes.
func everyPlan(f func(p api.Plan)) {
	for size := 1; size <= api.MaxBytes; size++ {
		for block := 1; block <= api.MaxBlock; block++ {
			if p := (api.Plan{Bytes: size, Block: block}); cut.Check(p) == api.OK {
				f(p)
			}
		}
	}
}

// summed adds the blocks of a symbol byte by byte from the cargo itself, without chapter 1 and the cutting of chapter 2.
func summed(p api.Plan, cargo []byte, in []bool) api.Block {
	data := make(api.Block, p.Block)
	for at, x := range cargo {
		if in[at/p.Block] {
			data[at%p.Block] ^= x
		}
	}
	return data
}

func TestDataIsTheSumOfItsBlocks(t *testing.T) {
	r := rand.New(rand.NewSource(1))
	everyPlan(func(p api.Plan) {
		cargo := make([]byte, p.Bytes)
		r.Read(cargo)
		ids := []int{0, api.MaxID}
		for range 20 {
			ids = append(ids, r.Intn(cut.Blocks(p)), r.Intn(api.MaxID+1))
		}
		for _, id := range ids {
			in, _ := pick.Of(id, cut.Blocks(p))
			want := summed(p, cargo, in)
			s, e := Make(p, cargo, id)
			if e != api.OK || s.ID != id || !bytes.Equal(s.Data, want) {
				t.Fatalf("%v, number %d: %v %d, want %v", p, id, s, e, want)
			}
			if e := Check(p, s); e != api.OK {
				t.Fatalf("%v, number %d: what is made is refused: %d", p, id, e)
			}
		}
	})
}

func TestEveryNumberHasASymbol(t *testing.T) {
	p := api.Plan{Bytes: api.MaxBytes, Block: 15}
	cargo := count(p.Bytes)
	for id := 0; id <= api.MaxID; id++ {
		in, _ := pick.Of(id, api.MaxBlocks)
		if s, e := Make(p, cargo, id); e != api.OK || s.ID != id || !bytes.Equal(s.Data, summed(p, cargo, in)) {
			t.Fatalf("number %d: %v %d", id, s, e)
		}
	}
}

func TestMakeOnlyReadsAndAnswersNewMemory(t *testing.T) {
	p := api.Plan{Bytes: 6, Block: 2}
	// One block alone, and a sum of two: neither may be a piece of the cargo.
	for _, id := range []int{0, 2, 7} {
		room := []byte{1, 2, 3, 4, 5, 6, 77, 78}
		before := bytes.Clone(room)
		s, e := Make(p, room[:6], id)
		again, _ := Make(p, room[:6], id)
		if e != api.OK || !bytes.Equal(room, before) {
			t.Fatalf("number %d: %d, what was handed in: %v", id, e, room)
		}
		kept := bytes.Clone(again.Data)
		whole := s.Data[:cap(s.Data)]
		for i := range whole {
			whole[i] = 99
		}
		if !bytes.Equal(room, before) {
			t.Errorf("number %d: the symbol shares what was handed in: %v", id, room)
		}
		if !bytes.Equal(again.Data, kept) {
			t.Errorf("number %d: two answers share memory: %v", id, again.Data)
		}
		room[0], room[4] = 50, 60
		if !bytes.Equal(again.Data, kept) {
			t.Errorf("number %d: what was handed in is kept: %v", id, again.Data)
		}
	}
}
