package solve

import (
	"bytes"
	"math"
	"math/rand"
	"reflect"
	"slices"
	"testing"

	"bottlepost/api"
	"bottlepost/code"
	"bottlepost/cut"
)

// row answers a row written in short: "101" has the first and the third of three blocks.
func row(has string, data ...byte) api.Row {
	r := api.Row{Data: data}
	for _, c := range has {
		r.Has = append(r.Has, c == '1')
	}
	return r
}

// three answers a system of three blocks of a byte.
func three(rows ...api.Row) api.System {
	return api.System{Blocks: 3, Block: 1, Rows: rows}
}

// zero says whether nothing is in a system.
func zero(s api.System) bool {
	return s.Blocks == 0 && s.Block == 0 && s.Rows == nil
}

// clone answers the same system in memory of its own.
func clone(s api.System) api.System {
	t := api.System{Blocks: s.Blocks, Block: s.Block}
	for _, r := range s.Rows {
		t.Rows = append(t.Rows, api.Row{Has: slices.Clone(r.Has), Data: slices.Clone(r.Data)})
	}
	return t
}

// wrong lists systems that Check refuses, by which error.
func wrong() map[string]struct {
	s    api.System
	want api.Errno
} {
	type of = struct {
		s    api.System
		want api.Errno
	}
	four := []api.Row{row("100", 1), row("010", 2), row("001", 3), row("001", 3)}
	return map[string]of{
		"nothing":             {api.System{}, api.ErrRange},
		"no blocks":           {api.System{Blocks: 0, Block: 1}, api.ErrRange},
		"no bytes":            {api.System{Blocks: 1, Block: 0}, api.ErrRange},
		"fewer than no block": {api.System{Blocks: -1, Block: 1}, api.ErrRange},
		"fewer than no bytes": {api.System{Blocks: 1, Block: -1}, api.ErrRange},
		"too many blocks":     {api.System{Blocks: api.MaxBlocks + 1, Block: 1}, api.ErrRange},
		"too many bytes":      {api.System{Blocks: 1, Block: api.MaxBlock + 1}, api.ErrRange},
		"far too many":        {api.System{Blocks: math.MaxInt, Block: math.MaxInt}, api.ErrRange},
		"far too few":         {api.System{Blocks: math.MinInt, Block: math.MinInt}, api.ErrRange},
		"range ahead of many": {api.System{Blocks: 0, Block: 1, Rows: four}, api.ErrRange},
		"range ahead of form": {api.System{Blocks: 3, Block: 17, Rows: []api.Row{{}}}, api.ErrRange},
		"many rows":           {three(four...), api.ErrMany},
		"many ahead of form":  {three(make([]api.Row, 4)...), api.ErrMany},
		"an empty row":        {three(api.Row{}), api.ErrForm},
		"Has too short":       {three(row("10", 1)), api.ErrForm},
		"Has too long":        {three(row("1000", 1)), api.ErrForm},
		"Has is none":         {three(row("", 1)), api.ErrForm},
		"Data too short":      {three(row("100")), api.ErrForm},
		"Data too long":       {three(row("100", 1, 0)), api.ErrForm},
		"second is too short": {three(row("100", 1), row("01", 2)), api.ErrForm},
		"third has no Data":   {three(row("100", 1), row("010", 2), row("001")), api.ErrForm},
		"no block":            {three(row("000", 0)), api.ErrForm},
		"no block behind":     {three(row("100", 1), row("000", 0)), api.ErrForm},
		"no block between":    {three(row("100", 1), row("000", 0), row("001", 2)), api.ErrForm},
		"turned round":        {three(row("010", 1), row("100", 2)), api.ErrForm},
		"last two turned":     {three(row("100", 1), row("001", 1), row("010", 2)), api.ErrForm},
		"twice the same":      {three(row("100", 1), row("100", 1)), api.ErrForm},
		"one first block":     {three(row("110", 1), row("101", 1)), api.ErrForm},
		"the second's first":  {three(row("110", 1), row("010", 1)), api.ErrForm},
		"the third's first":   {three(row("100", 1), row("011", 1), row("001", 1)), api.ErrForm},
		"the third's, above":  {three(row("101", 1), row("010", 1), row("001", 1)), api.ErrForm},
	}
}

func TestNew(t *testing.T) {
	for blocks := -2; blocks <= api.MaxBlocks+2; blocks++ {
		for block := -2; block <= api.MaxBlock+2; block++ {
			s, e := New(blocks, block)
			if blocks < 1 || blocks > api.MaxBlocks || block < 1 || block > api.MaxBlock {
				if e != api.ErrRange || !zero(s) {
					t.Errorf("New(%d, %d): %v %d, want nothing, ErrRange", blocks, block, s, e)
				}
				continue
			}
			if e != api.OK || s.Blocks != blocks || s.Block != block || len(s.Rows) != 0 || Check(s) != api.OK {
				t.Errorf("New(%d, %d): %v %d", blocks, block, s, e)
			}
		}
	}
	for _, n := range []int{math.MinInt, math.MaxInt} {
		if s, e := New(n, n); e != api.ErrRange || !zero(s) {
			t.Errorf("New(%d, %d): %v %d, want nothing, ErrRange", n, n, s, e)
		}
	}
}

func TestCheckTakes(t *testing.T) {
	most := api.System{Blocks: api.MaxBlocks, Block: api.MaxBlock}
	for i := range api.MaxBlocks {
		r := api.Row{Has: make([]bool, api.MaxBlocks), Data: make(api.Block, api.MaxBlock)}
		r.Has[i] = true
		most.Rows = append(most.Rows, r)
	}
	for _, s := range []api.System{
		{Blocks: 1, Block: 1},
		{Blocks: 1, Block: 1, Rows: []api.Row{}},
		{Blocks: 1, Block: 1, Rows: []api.Row{row("1", 9)}},
		{Blocks: api.MaxBlocks, Block: api.MaxBlock},
		most,
		three(row("111", 0)),
		three(row("001", 7)),
		three(row("101", 1), row("011", 2)),
		three(row("110", 1), row("001", 2)),
		three(row("010", 1), row("001", 2)),
		three(row("100", 1), row("010", 1), row("001", 1)),
	} {
		if e := Check(s); e != api.OK {
			t.Errorf("%v: %d, want OK", s, e)
		}
	}
}

func TestCheckRefuses(t *testing.T) {
	for name, c := range wrong() {
		if e := Check(c.s); e != c.want {
			t.Errorf("%s: %d, want %d", name, e, c.want)
		}
	}
}

// The others say Check's error ahead of their own, and answer nothing else.
func TestOthersSayItFirst(t *testing.T) {
	for name, c := range wrong() {
		for _, r := range []api.Row{{}, row("100", 1), row("000", 1), row("1", 1)} {
			if s, more, e := Add(c.s, r); e != c.want || more || !zero(s) {
				t.Errorf("Add, %s: %v %v %d, want nothing, false, %d", name, s, more, e, c.want)
			}
		}
		if l, e := Known(c.s); e != c.want || l != nil {
			t.Errorf("Known, %s: %v %d, want nothing, %d", name, l, e, c.want)
		}
	}
}

// Of all sets of up to three rows of three blocks, Check takes those that the rule, read word by word, allows.
func TestCheckEverySetOfRows(t *testing.T) {
	taken := 0
	for n := range 4 {
		for sets := range 1 << (3 * n) {
			var masks []int
			for i := range n {
				masks = append(masks, sets>>(3*i)&7)
			}
			s := three()
			for _, m := range masks {
				s.Rows = append(s.Rows, api.Row{Has: []bool{m&1 != 0, m&2 != 0, m&4 != 0}, Data: api.Block{5}})
			}
			want := api.OK
			if !solved(masks) {
				want = api.ErrForm
			} else {
				taken++
			}
			if e := Check(s); e != want {
				t.Errorf("%v: %d, want %d", masks, e, want)
			}
		}
	}
	// As many as there are spaces within that of three bits: of none, one, two and three rows 1, 7, 7 and 1.
	if taken != 16 {
		t.Errorf("%d sets were taken, want 16", taken)
	}
}

// solved says whether each mask has a lowest bit that no other one has, and these go up.
func solved(masks []int) bool {
	for i, m := range masks {
		low := m & -m
		if low == 0 || i > 0 && low <= masks[i-1]&-masks[i-1] {
			return false
		}
		for j, o := range masks {
			if i != j && o&low != 0 {
				return false
			}
		}
	}
	return true
}

func TestSame(t *testing.T) {
	a := three(row("101", 1), row("010", 2))
	for name, b := range map[string]api.System{
		"Blocks":         {Blocks: 4, Block: 1, Rows: a.Rows},
		"Block":          {Blocks: 3, Block: 2, Rows: a.Rows},
		"a row less":     three(a.Rows[0]),
		"a row more":     three(a.Rows[0], a.Rows[1], a.Rows[1]),
		"none":           three(),
		"turned round":   three(a.Rows[1], a.Rows[0]),
		"a block":        three(row("100", 1), row("010", 2)),
		"a shorter Has":  three(row("10", 1), row("010", 2)),
		"a longer Has":   three(row("101", 1), row("0100", 2)),
		"a byte":         three(row("101", 1), row("010", 3)),
		"a shorter Data": three(row("101"), row("010", 2)),
		"a longer Data":  three(row("101", 1), row("010", 2, 0)),
	} {
		if Same(a, b) || Same(b, a) {
			t.Errorf("another one by %s is the same", name)
		}
	}
	if !Same(a, a) || !Same(a, clone(a)) {
		t.Error("a system isn't the same as itself")
	}
}

func TestSameWhateverTheyAre(t *testing.T) {
	if !Same(api.System{}, api.System{Rows: []api.Row{}}) {
		t.Error("no rows, nil and empty, aren't the same")
	}
	if !Same(api.System{Rows: []api.Row{{}}}, api.System{Rows: []api.Row{{Has: []bool{}, Data: api.Block{}}}}) {
		t.Error("rows with nothing in them, nil and empty, aren't the same")
	}
	for name, c := range wrong() {
		if !Same(c.s, clone(c.s)) {
			t.Errorf("%s: not the same as its like", name)
		}
		if Same(c.s, three(row("111", 77))) {
			t.Errorf("%s: the same as another one", name)
		}
	}
}

// Each case is worked out by hand.
func TestAdd(t *testing.T) {
	for _, c := range []struct {
		s    api.System
		r    api.Row
		want api.System
		more bool
	}{
		{three(), row("110", 3), three(row("110", 3)), true},
		{three(), row("000", 0), three(), false},
		// Behind, ahead of, and between the others.
		{three(row("100", 1)), row("001", 4), three(row("100", 1), row("001", 4)), true},
		{three(row("001", 4)), row("100", 1), three(row("100", 1), row("001", 4)), true},
		{three(row("100", 1), row("001", 4)), row("010", 2), three(row("100", 1), row("010", 2), row("001", 4)), true},
		// Its first block goes from the row that has it.
		{three(row("110", 3)), row("011", 6), three(row("101", 5), row("011", 6)), true},
		{three(row("101", 5), row("011", 6)), row("001", 4), three(row("100", 1), row("010", 2), row("001", 4)), true},
		// The first blocks of the others go from it.
		{three(row("101", 5), row("011", 6)), row("111", 7), three(row("100", 1), row("010", 2), row("001", 4)), true},
		{three(row("100", 1)), row("111", 7), three(row("100", 1), row("011", 6)), true},
		{three(row("110", 3)), row("111", 7), three(row("110", 3), row("001", 4)), true},
		// It follows from the others.
		{three(row("101", 5), row("011", 6)), row("110", 3), three(row("101", 5), row("011", 6)), false},
		{three(row("101", 5)), row("101", 5), three(row("101", 5)), false},
		{three(row("101", 5)), row("000", 0), three(row("101", 5)), false},
		// Longer blocks are added byte by byte.
		{api.System{Blocks: 2, Block: 3, Rows: []api.Row{row("11", 1, 2, 255)}}, row("01", 255, 2, 128),
			api.System{Blocks: 2, Block: 3, Rows: []api.Row{row("10", 254, 0, 127), row("01", 255, 2, 128)}}, true},
		{api.System{Blocks: 1, Block: 1}, row("1", 0), api.System{Blocks: 1, Block: 1, Rows: []api.Row{row("1", 0)}}, true},
	} {
		s, more, e := Add(c.s, c.r)
		if e != api.OK || more != c.more || !Same(s, c.want) {
			t.Errorf("%v and %v: %v %v %d, want %v %v", c.s, c.r, s, more, e, c.want, c.more)
		}
	}
}

func TestAddRefuses(t *testing.T) {
	full := three(row("100", 1), row("010", 2), row("001", 4))
	long := api.System{Blocks: 1, Block: 3, Rows: []api.Row{row("1", 1, 2, 3)}}
	for _, c := range []struct {
		s    api.System
		r    api.Row
		want api.Errno
	}{
		{three(), api.Row{}, api.ErrForm},
		{three(), row("", 1), api.ErrForm},
		{three(), row("11", 1), api.ErrForm},
		{three(), row("1100", 1), api.ErrForm},
		{three(), row("110"), api.ErrForm},
		{three(), row("110", 1, 2), api.ErrForm},
		{full, row("1", 9), api.ErrForm},
		{full, row("100", 9, 9), api.ErrForm},
		{three(), row("000", 1), api.ErrTorn},
		{full, row("000", 1), api.ErrTorn},
		{full, row("100", 0), api.ErrTorn},
		{full, row("111", 6), api.ErrTorn},
		{three(row("101", 5), row("011", 6)), row("110", 2), api.ErrTorn},
		{long, row("1", 1, 2, 4), api.ErrTorn},
		{long, row("1", 0, 2, 3), api.ErrTorn},
		{long, row("1", 1, 0, 3), api.ErrTorn},
	} {
		if s, more, e := Add(c.s, c.r); e != c.want || more || !zero(s) {
			t.Errorf("%v and %v: %v %v %d, want nothing, false, %d", c.s, c.r, s, more, e, c.want)
		}
	}
}

// space is all that follows from some rows, kept apart from the program: by which blocks (a bit each), their sum.
type space map[int]byte

// add answers the greater space, whether it is one, and whether both can be at once.
func (a space) add(mask int, data byte) (space, bool, bool) {
	if d, ok := a[mask]; ok {
		return a, false, d == data
	}
	b := space{}
	for m, d := range a {
		b[m], b[m^mask] = d, d^data
	}
	return b, true, true
}

// rows answers the one solved system of the space: by each lowest bit the mask that has no other lowest bit.
func (a space) rows(blocks int) api.System {
	lowest := 0
	for m := range a {
		lowest |= m & -m
	}
	s := api.System{Blocks: blocks, Block: 1}
	for at := range blocks {
		for m, d := range a {
			if m != 0 && m&-m == 1<<at && m&lowest == 1<<at {
				s.Rows = append(s.Rows, rowOf(m, blocks, d))
			}
		}
	}
	return s
}

func rowOf(mask, blocks int, data byte) api.Row {
	r := api.Row{Has: make([]bool, blocks), Data: api.Block{data}}
	for i := range blocks {
		r.Has[i] = mask>>i&1 != 0
	}
	return r
}

// Whatever rows come, the system is the solved one of all that follows from them, and Known what follows of one block.
func TestAddAnyRows(t *testing.T) {
	random := rand.New(rand.NewSource(5))
	torn := 0
	for range 3000 {
		blocks := 1 + random.Intn(6)
		s, _ := New(blocks, 1)
		a := space{0: 0}
		for range 10 {
			// Few different bytes, so that rows often agree, and often don't.
			mask, data := random.Intn(1<<blocks), byte(random.Intn(2))
			b, greater, agree := a.add(mask, data)
			u, more, e := Add(s, rowOf(mask, blocks, data))
			if !agree {
				torn++
				if e != api.ErrTorn || more || !zero(u) {
					t.Fatalf("%v and %b %d: %v %v %d, want nothing, false, ErrTorn", s, mask, data, u, more, e)
				}
				continue
			}
			if e != api.OK || more != greater || !Same(u, b.rows(blocks)) || Check(u) != api.OK {
				t.Fatalf("%v and %b %d: %v %v %d, want %v %v", s, mask, data, u, more, e, b.rows(blocks), greater)
			}
			s, a = u, b
			checkKnown(t, s, a)
		}
	}
	if torn == 0 {
		t.Error("no rows disagreed")
	}
}

func checkKnown(t *testing.T, s api.System, a space) {
	t.Helper()
	l, e := Known(s)
	if e != api.OK || len(l) != s.Blocks {
		t.Fatalf("%v: known %v %d", s, l, e)
	}
	for i, b := range l {
		d, ok := a[1<<i]
		if ok != (b != nil) || ok && !bytes.Equal(b, api.Block{d}) {
			t.Fatalf("%v: known %v, but %v follows: %v", s, l, d, ok)
		}
	}
}

func TestKnown(t *testing.T) {
	for _, c := range []struct {
		s    api.System
		want []api.Block
	}{
		{three(), []api.Block{nil, nil, nil}},
		{three(row("101", 5), row("011", 6)), []api.Block{nil, nil, nil}},
		{three(row("111", 7)), []api.Block{nil, nil, nil}},
		{three(row("101", 5), row("010", 2)), []api.Block{nil, {2}, nil}},
		{three(row("110", 3), row("001", 4)), []api.Block{nil, nil, {4}}},
		{three(row("100", 0), row("011", 6)), []api.Block{{0}, nil, nil}},
		{three(row("100", 1), row("010", 2), row("001", 4)), []api.Block{{1}, {2}, {4}}},
		{api.System{Blocks: 2, Block: 2, Rows: []api.Row{row("01", 8, 9)}}, []api.Block{nil, {8, 9}}},
	} {
		if l, e := Known(c.s); e != api.OK || !reflect.DeepEqual(l, c.want) {
			t.Errorf("%v: %v %d, want %v", c.s, l, e, c.want)
		}
	}
}

// roomy answers the system with spare room behind each list of it, and a look at all of that room.
func roomy(s api.System) (api.System, func() api.System) {
	u := api.System{Blocks: s.Blocks, Block: s.Block}
	rows := []api.Row{}
	for _, r := range s.Rows {
		rows = append(rows, api.Row{Has: append(slices.Clone(r.Has), true, false), Data: append(slices.Clone(r.Data), 77, 78)})
	}
	all := append(slices.Clone(rows), row("1", 99), row("0", 98))
	for i, r := range rows {
		all[i] = api.Row{Has: r.Has[:s.Blocks], Data: r.Data[:s.Block]}
	}
	u.Rows = all[:len(rows)]
	return u, func() api.System {
		full := api.System{Blocks: u.Blocks, Block: u.Block}
		for i, r := range all {
			if i < len(rows) {
				r = api.Row{Has: r.Has[:s.Blocks+2], Data: r.Data[:s.Block+2]}
			}
			full.Rows = append(full.Rows, r)
		}
		return clone(full)
	}
}

func TestOnlyReads(t *testing.T) {
	for _, r := range []api.Row{row("001", 4), row("111", 7), row("110", 3), row("110", 2), row("011", 6)} {
		s, look := roomy(three(row("101", 5), row("011", 6)))
		h := append(slices.Clone(r.Has), true)
		d := append(slices.Clone(r.Data), 55)
		was := look()
		Add(s, api.Row{Has: h[:3], Data: d[:1]})
		Known(s)
		Check(s)
		Same(s, s)
		if !Same(look(), was) || !slices.Equal(h, append(slices.Clone(r.Has), true)) || !bytes.Equal(d, append(slices.Clone(r.Data), 55)) {
			t.Errorf("with %v: what was handed in was changed: %v %v %v", r, look(), h, d)
		}
	}
}

// What is answered is written over, spare room and all: what was handed in must stay, and each list of the answer, too.
func TestAnswersNewMemory(t *testing.T) {
	// A row that stands as it came, one that is changed, and one that follows.
	for _, r := range []api.Row{row("00010", 8), row("10101", 7), row("11110", 15), row("00001", 16)} {
		s, look := roomy(api.System{Blocks: 5, Block: 1, Rows: []api.Row{row("10110", 13), row("01000", 2)}})
		was, row := look(), api.Row{Has: slices.Clone(r.Has), Data: slices.Clone(r.Data)}
		u, _, e := Add(s, row)
		if e != api.OK {
			t.Fatalf("%v: %d", r, e)
		}
		want := clone(u)
		for i := range u.Rows {
			scribble(&u.Rows[i])
			for j := range u.Rows {
				if j > i && !reflect.DeepEqual(u.Rows[j], want.Rows[j]) {
					t.Errorf("%v: the rows at %d and %d share memory", r, i, j)
				}
			}
		}
		rest := u.Rows[len(u.Rows):cap(u.Rows)]
		for i := range rest {
			rest[i] = api.Row{Has: []bool{true}}
		}
		if !Same(look(), was) || !reflect.DeepEqual(row, r) {
			t.Errorf("%v: the answer shares memory with what was handed in", r)
		}
	}
}

func scribble(r *api.Row) {
	has, data := r.Has[:cap(r.Has)], r.Data[:cap(r.Data)]
	for i := range has {
		has[i] = !has[i]
	}
	for i := range data {
		data[i] ^= 255
	}
	r.Has, r.Data = nil, nil
}

func TestKnownAnswersNewMemory(t *testing.T) {
	s, look := roomy(three(row("100", 1), row("010", 2), row("001", 4)))
	was := look()
	l, _ := Known(s)
	for i, b := range l {
		b = b[:cap(b)]
		for j := range b {
			b[j] ^= 255
		}
		for j := i + 1; j < len(l); j++ {
			if !bytes.Equal(l[j], api.Block{1 << j}) {
				t.Errorf("the blocks at %d and %d share memory", i, j)
			}
		}
	}
	if !Same(look(), was) {
		t.Error("the answer shares memory with what was handed in")
	}
}

// symbols answers those of these numbers of the cargo.
func symbols(t *testing.T, p api.Plan, cargo []byte, ids ...int) []api.Symbol {
	t.Helper()
	var l []api.Symbol
	for _, id := range ids {
		y, e := code.Make(p, cargo, id)
		if e != api.OK {
			t.Fatalf("%v, number %d: %d", p, id, e)
		}
		l = append(l, y)
	}
	return l
}

func TestDecode(t *testing.T) {
	five, cargo := api.Plan{Bytes: 5, Block: 2}, []byte{1, 2, 4, 8, 16}
	for _, c := range []struct {
		ids  []int
		want api.Errno
	}{
		{nil, api.ErrShort},
		{[]int{0, 1}, api.ErrShort},
		{[]int{0, 1, 2}, api.OK},
		{[]int{2, 1, 0}, api.OK},
		{[]int{0, 0, 1, 1, 2, 2}, api.OK},
		{[]int{0, 0, 0}, api.ErrShort},
		// 3 has the second and the third, 7 the first and the third, 5300 all of them.
		{[]int{3, 7}, api.ErrShort},
		{[]int{3, 7, 5300}, api.OK},
		{[]int{5300, 3, 0}, api.ErrShort}, // the first follows from the others
		{[]int{5300, 3, 0, 7}, api.OK},
		{[]int{7, 0, 1}, api.OK},
	} {
		got, e := Decode(five, symbols(t, five, cargo, c.ids...))
		if e != c.want || (e == api.OK) != bytes.Equal(got, cargo) || e != api.OK && got != nil {
			t.Errorf("%v: %v %d, want %d", c.ids, got, e, c.want)
		}
	}
}

func TestDecodeRefuses(t *testing.T) {
	p := api.Plan{Bytes: 3, Block: 1}
	y := func(id int, data ...byte) api.Symbol { return api.Symbol{ID: id, Data: data} }
	many := make([]api.Symbol, api.MaxSymbols+1)
	wide := api.Plan{Bytes: 5, Block: 3}
	for name, c := range map[string]struct {
		p    api.Plan
		l    []api.Symbol
		want api.Errno
	}{
		"no plan":                     {api.Plan{}, nil, api.ErrRange},
		"plan ahead of many":          {api.Plan{Bytes: 25, Block: 1}, many[:1], api.ErrMany},
		"plan's range ahead of many":  {api.Plan{Bytes: 0, Block: 1}, many, api.ErrRange},
		"many":                        {p, many, api.ErrMany},
		"not too many":                {p, many[:api.MaxSymbols], api.ErrForm},
		"number below":                {p, []api.Symbol{y(-1, 1)}, api.ErrRange},
		"number above":                {p, []api.Symbol{y(api.MaxID+1, 1)}, api.ErrRange},
		"number ahead of bytes":       {p, []api.Symbol{y(math.MaxInt)}, api.ErrRange},
		"no bytes":                    {p, []api.Symbol{y(1)}, api.ErrForm},
		"too many bytes":              {p, []api.Symbol{y(1, 1, 2)}, api.ErrForm},
		"torn":                        {p, []api.Symbol{y(1, 1), y(1, 2)}, api.ErrTorn},
		"torn by what follows":        {p, []api.Symbol{y(0, 1), y(2, 4), y(7, 4)}, api.ErrTorn},
		"torn though all is known":    {p, []api.Symbol{y(0, 1), y(1, 2), y(2, 4), y(7, 4)}, api.ErrTorn},
		"torn ahead of a later range": {p, []api.Symbol{y(1, 1), y(1, 2), y(-1, 2)}, api.ErrTorn},
		"torn ahead of a later form":  {p, []api.Symbol{y(1, 1), y(1, 2), y(1)}, api.ErrTorn},
		"range ahead of a later torn": {p, []api.Symbol{y(1, 1), y(-1, 2), y(1, 2)}, api.ErrRange},
		"form ahead of a later range": {p, []api.Symbol{y(1), y(-1, 1)}, api.ErrForm},
		"range ahead of a later form": {p, []api.Symbol{y(-1, 1), y(1)}, api.ErrRange},
		"wrong though all is known":   {p, []api.Symbol{y(0, 1), y(1, 2), y(2, 4), y(3)}, api.ErrForm},
		"short":                       {p, []api.Symbol{y(0, 1), y(1, 1)}, api.ErrShort},
		"something behind the cargo":  {wide, []api.Symbol{y(0, 1, 2, 3), y(1, 4, 5, 6)}, api.ErrForm},
		"short ahead of that":         {wide, []api.Symbol{y(1, 4, 5, 6)}, api.ErrShort},
	} {
		if cargo, e := Decode(c.p, c.l); e != c.want || cargo != nil {
			t.Errorf("%s: %v %d, want nothing, %d", name, cargo, e, c.want)
		}
	}
	if cargo, e := Decode(wide, []api.Symbol{y(0, 1, 2, 3), y(1, 4, 5, 0)}); e != api.OK || !bytes.Equal(cargo, []byte{1, 2, 3, 4, 5}) {
		t.Errorf("%v %d", cargo, e)
	}
}

func TestDecodeOfTheMostSymbols(t *testing.T) {
	p := api.Plan{Bytes: api.MaxBytes, Block: 15}
	cargo := make([]byte, api.MaxBytes)
	rand.New(rand.NewSource(7)).Read(cargo)
	var ids []int
	for i := range api.MaxSymbols {
		ids = append(ids, api.MaxID-i)
	}
	l := symbols(t, p, cargo, ids...)
	if got, e := Decode(p, l); e != api.OK || !bytes.Equal(got, cargo) {
		t.Errorf("of 60: %d, want the cargo", e)
	}
	if _, e := Decode(p, append(l, l[0])); e != api.ErrMany {
		t.Errorf("of 61: %d, want ErrMany", e)
	}
}

func TestDecodeOnlyReadsAndAnswersNewMemory(t *testing.T) {
	p := api.Plan{Bytes: 2, Block: 1}
	room := []byte{1, 77}
	all := []api.Symbol{{ID: 0, Data: room[:1]}, {ID: 1, Data: api.Block{2}}, {ID: 5, Data: api.Block{9}}}
	got, e := Decode(p, all[:2])
	if e != api.OK || !bytes.Equal(got, []byte{1, 2}) {
		t.Fatalf("%v %d", got, e)
	}
	got = got[:cap(got)]
	for i := range got {
		got[i] = 200
	}
	want := []api.Symbol{{ID: 0, Data: api.Block{1}}, {ID: 1, Data: api.Block{2}}, {ID: 5, Data: api.Block{9}}}
	if !reflect.DeepEqual(all, want) || !bytes.Equal(room, []byte{1, 77}) {
		t.Errorf("what was handed in was changed: %v %v", all, room)
	}
}

// P5.4: any symbols of any cargo, in any order, are the cargo or too few; and which of both doesn't hang on the order.
func TestAnySymbolsInAnyOrder(t *testing.T) {
	random := rand.New(rand.NewSource(11))
	known, short := 0, 0
	for range 1500 {
		p := api.Plan{Bytes: 1 + random.Intn(api.MaxBytes), Block: 1 + random.Intn(api.MaxBlock)}
		if cut.Check(p) != api.OK {
			continue
		}
		cargo := make([]byte, p.Bytes)
		random.Read(cargo)
		n := min(cut.Blocks(p)+random.Intn(7), api.MaxSymbols)
		var ids []int
		for range n {
			ids = append(ids, random.Intn([]int{40, api.MaxID + 1}[random.Intn(2)]))
		}
		l := symbols(t, p, cargo, ids...)
		got, e := Decode(p, l)
		switch {
		case e == api.OK && bytes.Equal(got, cargo):
			known++
		case e == api.ErrShort && got == nil:
			short++
		default:
			t.Fatalf("%v, numbers %v: %v %d, want %v or ErrShort", p, ids, got, e, cargo)
		}
		random.Shuffle(n, func(i, j int) { l[i], l[j] = l[j], l[i] })
		if again, f := Decode(p, l); f != e || !bytes.Equal(again, got) {
			t.Fatalf("%v, numbers %v: %d, but %d in another order", p, ids, e, f)
		}
		// More of them never make it less known.
		if e == api.OK && n < api.MaxSymbols {
			more := append(l, symbols(t, p, cargo, random.Intn(api.MaxID+1))...)
			if again, f := Decode(p, more); f != api.OK || !bytes.Equal(again, cargo) {
				t.Fatalf("%v, numbers %v: %d with one more", p, ids, f)
			}
		}
	}
	if known < 100 || short < 100 {
		t.Errorf("only %d were known, and %d not yet", known, short)
	}
}
