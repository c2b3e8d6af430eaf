package peel

import (
	"bytes"
	"math"
	"math/bits"
	"math/rand"
	"reflect"
	"slices"
	"strings"
	"testing"

	"bottlepost/api"
	"bottlepost/code"
	"bottlepost/cut"
	"bottlepost/pick"
	"bottlepost/solve"
)

// symbol answers one that has just these blocks, written in short: "101" has the first and the third of three.
func symbol(t *testing.T, has string, data ...byte) api.Symbol {
	t.Helper()
	for id := range api.MaxID + 1 {
		in, _ := pick.Of(id, len(has))
		if short(in) == has {
			return api.Symbol{ID: id, Data: data}
		}
	}
	t.Fatalf("no symbol has %s", has)
	return api.Symbol{}
}

func short(in []bool) string {
	var b strings.Builder
	for _, x := range in {
		if x {
			b.WriteByte('1')
		} else {
			b.WriteByte('0')
		}
	}
	return b.String()
}

// made answers the symbols of these numbers of the cargo.
func made(t *testing.T, p api.Plan, cargo []byte, ids ...int) []api.Symbol {
	t.Helper()
	var l []api.Symbol
	for _, id := range ids {
		y, e := code.Make(p, cargo, id)
		if e != api.OK {
			t.Fatalf("%v, number %d: %d", p, id, e)
		}
		l = append(l, y)
	}
	return l
}

// Each case is worked out by hand; the blocks are 1, 2 and 4, unless symbols disagree.
func TestKnown(t *testing.T) {
	p := api.Plan{Bytes: 3, Block: 1}
	y := func(has string, data byte) api.Symbol { return symbol(t, has, data) }
	for name, c := range map[string]struct {
		l    []api.Symbol
		want []api.Block
	}{
		"no symbols":          {nil, []api.Block{nil, nil, nil}},
		"an empty list":       {[]api.Symbol{}, []api.Block{nil, nil, nil}},
		"one block":           {[]api.Symbol{y("010", 2)}, []api.Block{nil, {2}, nil}},
		"a block of noughts":  {[]api.Symbol{y("010", 0)}, []api.Block{nil, {0}, nil}},
		"all blocks":          {[]api.Symbol{y("001", 4), y("100", 1), y("010", 2)}, []api.Block{{1}, {2}, {4}}},
		"two unknown":         {[]api.Symbol{y("110", 3)}, []api.Block{nil, nil, nil}},
		"all unknown":         {[]api.Symbol{y("111", 7)}, []api.Block{nil, nil, nil}},
		"behind what it asks": {[]api.Symbol{y("100", 1), y("110", 3)}, []api.Block{{1}, {2}, nil}},
		"ahead of it":         {[]api.Symbol{y("110", 3), y("100", 1)}, []api.Block{{1}, {2}, nil}},
		"two known":           {[]api.Symbol{y("111", 7), y("100", 1), y("001", 4)}, []api.Block{{1}, {2}, {4}}},
		"one of three known":  {[]api.Symbol{y("111", 7), y("100", 1)}, []api.Block{{1}, nil, nil}},
		"three rounds":        {[]api.Symbol{y("101", 5), y("110", 3), y("010", 2)}, []api.Block{{1}, {2}, {4}}},
		"twice the same":      {[]api.Symbol{y("100", 1), y("100", 1), y("110", 3), y("110", 3)}, []api.Block{{1}, {2}, nil}},
		"a round of pairs":    {[]api.Symbol{y("110", 3), y("011", 6), y("101", 5)}, []api.Block{nil, nil, nil}},
		// Of these chapter 5 knows all, but no symbol by itself is of one block.
		"only together": {[]api.Symbol{y("110", 3), y("011", 6), y("111", 7)}, []api.Block{nil, nil, nil}},
	} {
		if l, e := Known(p, c.l); e != api.OK || !reflect.DeepEqual(l, c.want) {
			t.Errorf("%s: %v %d, want %v", name, l, e, c.want)
		}
	}
}

// Symbols that disagree are no error: what is known first stays, and a round takes them in order, each with all that was known ahead of it.
func TestSymbolsThatDisagree(t *testing.T) {
	p := api.Plan{Bytes: 3, Block: 1}
	y := func(has string, data byte) api.Symbol { return symbol(t, has, data) }
	for name, c := range map[string]struct {
		l    []api.Symbol
		want []api.Block
	}{
		"the first one stays":     {[]api.Symbol{y("100", 1), y("100", 9)}, []api.Block{{1}, nil, nil}},
		"turned round":            {[]api.Symbol{y("100", 9), y("100", 1)}, []api.Block{{9}, nil, nil}},
		"known in the same round": {[]api.Symbol{y("100", 1), y("110", 3), y("010", 9)}, []api.Block{{1}, {2}, nil}},
		"only in the next one":    {[]api.Symbol{y("110", 3), y("100", 1), y("010", 9)}, []api.Block{{1}, {9}, nil}},
		"none unknown any more":   {[]api.Symbol{y("110", 3), y("100", 1), y("010", 9), y("101", 5)}, []api.Block{{1}, {9}, {4}}},
		// The second round begins with the first one that is left, not where something became known.
		"the second round": {[]api.Symbol{y("110", 3), y("011", 9), y("100", 1), y("111", 7)}, []api.Block{{1}, {2}, {11}}},
	} {
		if l, e := Known(p, c.l); e != api.OK || !reflect.DeepEqual(l, c.want) {
			t.Errorf("%s: %v %d, want %v", name, l, e, c.want)
		}
	}
}

func TestOneBlock(t *testing.T) {
	p := api.Plan{Bytes: 2, Block: 3}
	for _, id := range []int{0, 1, 77, api.MaxID} {
		// Known doesn't join the blocks, so what is behind the cargo isn't looked at.
		l, e := Known(p, []api.Symbol{{ID: id, Data: api.Block{1, 2, 3}}})
		if e != api.OK || !reflect.DeepEqual(l, []api.Block{{1, 2, 3}}) {
			t.Errorf("number %d: %v %d", id, l, e)
		}
	}
}

// A chain that is told from its end needs as many rounds as it has blocks.
func TestLongChain(t *testing.T) {
	const n = api.MaxBlocks
	p := api.Plan{Bytes: n * 15, Block: 15}
	cargo := make([]byte, p.Bytes)
	rand.New(rand.NewSource(3)).Read(cargo)
	var ids []int
	for i := n - 2; i >= 0; i-- {
		has := strings.Repeat("0", i) + "11" + strings.Repeat("0", n-2-i)
		ids = append(ids, symbol(t, has).ID)
	}
	want, _ := cut.Cut(p, cargo)
	if l, e := Known(p, made(t, p, cargo, ids...)); e != api.OK || !reflect.DeepEqual(l, make([]api.Block, n)) {
		t.Errorf("without an end: %v %d, want %d that aren't known", l, e, n)
	}
	for _, end := range []int{0, n / 2, n - 1} {
		l, e := Known(p, made(t, p, cargo, append(slices.Clone(ids), end)...))
		if e != api.OK || !reflect.DeepEqual(l, want) {
			t.Errorf("with block %d: %v %d, want %v", end, l, e, want)
		}
	}
}

func TestKnownRefuses(t *testing.T) {
	p := api.Plan{Bytes: 3, Block: 2}
	y := func(id int, data ...byte) api.Symbol { return api.Symbol{ID: id, Data: data} }
	many := make([]api.Symbol, api.MaxSymbols+1)
	for name, c := range map[string]struct {
		p    api.Plan
		l    []api.Symbol
		want api.Errno
	}{
		"no plan":                     {api.Plan{}, nil, api.ErrRange},
		"no bytes":                    {api.Plan{Bytes: 0, Block: 1}, nil, api.ErrRange},
		"too many bytes":              {api.Plan{Bytes: api.MaxBytes + 1, Block: 16}, nil, api.ErrRange},
		"no block":                    {api.Plan{Bytes: 1, Block: 0}, nil, api.ErrRange},
		"too long a block":            {api.Plan{Bytes: 1, Block: api.MaxBlock + 1}, nil, api.ErrRange},
		"far too much":                {api.Plan{Bytes: math.MaxInt, Block: math.MaxInt}, nil, api.ErrRange},
		"far too little":              {api.Plan{Bytes: math.MinInt, Block: math.MinInt}, nil, api.ErrRange},
		"too many blocks":             {api.Plan{Bytes: api.MaxBlocks + 1, Block: 1}, nil, api.ErrMany},
		"plan ahead of many":          {api.Plan{Bytes: 0, Block: 1}, many, api.ErrRange},
		"plan ahead of a symbol":      {api.Plan{Bytes: api.MaxBlocks + 1, Block: 1}, []api.Symbol{y(-1)}, api.ErrMany},
		"many":                        {p, many, api.ErrMany},
		"not too many":                {p, many[:api.MaxSymbols], api.ErrForm},
		"number below":                {p, []api.Symbol{y(-1, 1, 2)}, api.ErrRange},
		"number above":                {p, []api.Symbol{y(api.MaxID+1, 1, 2)}, api.ErrRange},
		"number far below":            {p, []api.Symbol{y(math.MinInt, 1, 2)}, api.ErrRange},
		"number far above":            {p, []api.Symbol{y(math.MaxInt, 1, 2)}, api.ErrRange},
		"number ahead of bytes":       {p, []api.Symbol{y(-1)}, api.ErrRange},
		"no Data":                     {p, []api.Symbol{y(0)}, api.ErrForm},
		"Data too short":              {p, []api.Symbol{y(0, 1)}, api.ErrForm},
		"Data too long":               {p, []api.Symbol{y(0, 1, 2, 3)}, api.ErrForm},
		"form ahead of a later range": {p, []api.Symbol{y(0, 1, 2), y(0), y(-1)}, api.ErrForm},
		"range ahead of a later form": {p, []api.Symbol{y(0, 1, 2), y(-1), y(0)}, api.ErrRange},
		"wrong though all is known":   {p, []api.Symbol{y(0, 1, 2), y(1, 3, 0), y(5, 1)}, api.ErrForm},
	} {
		if l, e := Known(c.p, c.l); e != c.want || l != nil {
			t.Errorf("%s: %v %d, want nothing, %d", name, l, e, c.want)
		}
	}
}

func TestTheMostSymbols(t *testing.T) {
	p := api.Plan{Bytes: 2, Block: 1}
	l := make([]api.Symbol, api.MaxSymbols+1)
	for i := range l {
		l[i] = api.Symbol{ID: 0, Data: api.Block{5}}
	}
	// The last one of those that may be is looked at, too.
	l[api.MaxSymbols-1] = api.Symbol{ID: 1, Data: api.Block{6}}
	if got, e := Known(p, l[:api.MaxSymbols]); e != api.OK || !reflect.DeepEqual(got, []api.Block{{5}, {6}}) {
		t.Errorf("of 60: %v %d", got, e)
	}
	if got, e := Known(p, l); e != api.ErrMany || got != nil {
		t.Errorf("of 61: %v %d, want nothing, ErrMany", got, e)
	}
}

func TestOnlyReadsAndAnswersNewMemory(t *testing.T) {
	p := api.Plan{Bytes: 3, Block: 1}
	all := []api.Symbol{symbol(t, "111", 7, 77), symbol(t, "110", 3, 78), symbol(t, "100", 1, 79), symbol(t, "010", 99, 80)}
	was := make([]api.Symbol, len(all))
	given := slices.Clone(all)
	for i, y := range all {
		was[i] = api.Symbol{ID: y.ID, Data: slices.Clone(y.Data)}
		given[i].Data = y.Data[:1]
	}
	got, e := Known(p, given[:3])
	want := []api.Block{{1}, {2}, {4}}
	if e != api.OK || !reflect.DeepEqual(got, want) {
		t.Fatalf("%v %d, want %v", got, e, want)
	}
	// Whoever writes over one block, and the room behind it, changes no other one.
	for i, b := range got {
		b = b[:cap(b)]
		for j := range b {
			b[j] = 200
		}
		if !reflect.DeepEqual(got[i+1:], want[i+1:]) {
			t.Errorf("block %d shares memory with one behind it: %v", i, got)
		}
	}
	if !reflect.DeepEqual(all, was) || given[3].ID != was[3].ID || len(given[3].Data) != 1 {
		t.Errorf("what was handed in was changed: %v %v, want %v", all, given, was)
	}
	if again, e := Known(p, given[:3]); e != api.OK || !reflect.DeepEqual(again, want) {
		t.Errorf("once more: %v %d, want %v", again, e, want)
	}
}

// peeled is the rule of P6.1 word by word, kept apart from the program: by masks of blocks of a byte; the first answer is the mask of what is known.
func peeled(masks []int, data []byte) (int, [api.MaxBlocks]byte) {
	known, what := 0, [api.MaxBlocks]byte{}
	gone := make([]bool, len(masks))
	for {
		found := false
		for i, m := range masks {
			unknown := m &^ known
			if gone[i] || bits.OnesCount(uint(unknown)) > 1 {
				continue
			}
			gone[i] = true
			if unknown == 0 {
				continue
			}
			x := data[i]
			for at := range api.MaxBlocks {
				if m&known>>at&1 != 0 {
					x ^= what[at]
				}
			}
			known |= unknown
			what[bits.TrailingZeros(uint(unknown))] = x
			found = true
		}
		if !found {
			return known, what
		}
	}
}

// Whatever symbols come, be they of one cargo or not, what is known is what the rule says.
func TestAnySymbols(t *testing.T) {
	random := rand.New(rand.NewSource(13))
	some, whole := 0, 0
	for range 4000 {
		p := api.Plan{Bytes: 1 + random.Intn(api.MaxBlocks), Block: 1}
		var l []api.Symbol
		var masks []int
		var data []byte
		for range random.Intn(min(2*p.Bytes+3, api.MaxSymbols+1)) {
			y := api.Symbol{ID: random.Intn(api.MaxID + 1), Data: api.Block{byte(random.Intn(256))}}
			in, _ := pick.Of(y.ID, p.Bytes)
			mask := 0
			for i, x := range in {
				if x {
					mask |= 1 << i
				}
			}
			l, masks, data = append(l, y), append(masks, mask), append(data, y.Data[0])
		}
		known, what := peeled(masks, data)
		want := make([]api.Block, p.Bytes)
		for i := range want {
			if known>>i&1 != 0 {
				want[i] = api.Block{what[i]}
			}
		}
		got, e := Known(p, l)
		if e != api.OK || !reflect.DeepEqual(got, want) {
			t.Fatalf("%v of %v: %v %d, want %v", p, l, got, e, want)
		}
		switch bits.OnesCount(uint(known)) {
		case 0:
		case p.Bytes:
			whole++
		default:
			some++
		}
	}
	if some < 100 || whole < 100 {
		t.Errorf("only %d were known in part, and %d whole", some, whole)
	}
}

// solved answers what chapter 5 knows of the same symbols.
func solved(t *testing.T, p api.Plan, l []api.Symbol) []api.Block {
	t.Helper()
	s, e := solve.New(cut.Blocks(p), p.Block)
	for _, y := range l {
		has, f := pick.Of(y.ID, s.Blocks)
		if e != api.OK || f != api.OK {
			t.Fatalf("%v, number %d: %d %d", p, y.ID, e, f)
		}
		s, _, e = solve.Add(s, api.Row{Has: has, Data: y.Data})
	}
	known, f := solve.Known(s)
	if e != api.OK || f != api.OK {
		t.Fatalf("%v: %d %d", p, e, f)
	}
	return known
}

// P6.2: of the symbols of a cargo, in any order, what is known here chapter 5 knows, too, and it is a block of the cargo.
func TestSolveKnowsItToo(t *testing.T) {
	random := rand.New(rand.NewSource(17))
	whole, less := 0, 0
	for range 1500 {
		p := api.Plan{Bytes: 1 + random.Intn(api.MaxBytes), Block: 1 + random.Intn(api.MaxBlock)}
		if cut.Check(p) != api.OK {
			continue
		}
		cargo := make([]byte, p.Bytes)
		random.Read(cargo)
		var ids []int
		for range min(cut.Blocks(p)+random.Intn(20), api.MaxSymbols) {
			ids = append(ids, random.Intn([]int{40, api.MaxID + 1}[random.Intn(2)]))
		}
		l := made(t, p, cargo, ids...)
		got, e := Known(p, l)
		blocks, _ := cut.Cut(p, cargo)
		more := solved(t, p, l)
		if e != api.OK || len(got) != len(blocks) {
			t.Fatalf("%v, numbers %v: %v %d", p, ids, got, e)
		}
		for i, b := range got {
			if b != nil && (!bytes.Equal(b, blocks[i]) || !bytes.Equal(b, more[i])) {
				t.Fatalf("%v, numbers %v: block %d is %v here, %v in chapter 5, want %v", p, ids, i, b, more[i], blocks[i])
			}
		}
		unknown := func(b api.Block) bool { return b == nil }
		if slices.ContainsFunc(got, unknown) {
			if !slices.ContainsFunc(more, unknown) {
				less++
			}
		} else {
			whole++
			if c, e := solve.Decode(p, l); e != api.OK || !bytes.Equal(c, cargo) {
				t.Fatalf("%v, numbers %v: all is known, but Decode answers %v %d", p, ids, c, e)
			}
		}
		// What is known doesn't hang on the order, as long as the symbols are of one cargo.
		random.Shuffle(len(l), func(i, j int) { l[i], l[j] = l[j], l[i] })
		if again, e := Known(p, l); e != api.OK || !reflect.DeepEqual(again, got) {
			t.Fatalf("%v, numbers %v: %v, but %v %d in another order", p, ids, got, again, e)
		}
	}
	if whole < 100 || less < 20 {
		t.Errorf("only %d were known whole, and of %d chapter 5 alone knew all", whole, less)
	}
}
