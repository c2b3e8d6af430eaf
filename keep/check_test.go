package keep

import (
	"math"
	"slices"
	"testing"

	"bottlepost/api"
)

// plan: three blocks of two bytes.
var plan = api.Plan{Bytes: 5, Block: 2}

func cargo() []byte { return []byte{1, 2, 3, 4, 5} }

func symbol(id int, data ...byte) api.Symbol { return api.Symbol{ID: id, Data: data} }

// symbols answers so many symbols of blocks of two bytes, with the numbers from 0 on.
func symbols(n int) []api.Symbol {
	var l []api.Symbol
	for id := range n {
		l = append(l, symbol(id, byte(id), 0))
	}
	return l
}

// taken answers so many that came from one place, by the tries from 1 on.
func taken(n int) []api.Taken {
	var l []api.Taken
	for i := range n {
		l = append(l, api.Taken{Place: 1, Try: i + 1})
	}
	return l
}

// Where in sample's Keep the bundles stand.
const (
	atGiving    = 0 // has symbols and shares, and gives
	atDelivered = 1
	atPurged    = 2
	atOwn       = 3
	atBare      = 4 // has nothing yet
)

// sample answers a place that keeps a bundle of each kind; its memory is new.
func sample() api.Place {
	return api.Place{Me: 2, Time: 10, Seq: 5, Keep: []api.Kept{
		{
			H:       api.Head{From: 0, Seq: 3, To: 2, Till: 50, P: plan},
			Symbols: []api.Symbol{symbol(7, 4, 2), symbol(1, 3, 4)},
			Shares:  3, Giving: 2, Towards: 3, Try: 4,
			Took: []api.Taken{{Place: 0, Try: 1}, {Place: 1, Try: 1}, {Place: 1, Try: 7}},
		},
		{H: api.Head{From: 1, Seq: 0, To: 2, Till: 11, P: plan}, Try: 3, Took: taken(2), Delivered: true},
		{H: api.Head{From: 1, Seq: 4, To: 3, Till: 60, P: plan}, Purged: true},
		{H: api.Head{From: 2, Seq: 4, To: 0, Till: 40, P: plan}, Own: true, Cargo: cargo(), Shares: 8},
		{H: api.Head{From: 3, Seq: 2, To: 2, Till: 50, P: plan}},
	}}
}

// on answers a change of one bundle of a place.
func on(at int, f func(k *api.Kept)) func(p *api.Place) {
	return func(p *api.Place) { f(&p.Keep[at]) }
}

func changed(p api.Place, changes ...func(p *api.Place)) api.Place {
	for _, f := range changes {
		f(&p)
	}
	return p
}

// P9.1: a new place, and who can't be one.
func TestNew(t *testing.T) {
	for me := range api.MaxPlaces {
		p, e := New(me)
		if e != api.OK || p.Me != me || p.Time != 0 || p.Seq != 0 || len(p.Keep) != 0 || Check(p) != api.OK {
			t.Errorf("%d: %+v, %d", me, p, e)
		}
	}
	for _, me := range []int{-1, 4, math.MinInt, math.MaxInt} {
		if p, e := New(me); e != api.ErrRange || !isZero(p) {
			t.Errorf("%d: %+v, %d, want ErrRange", me, p, e)
		}
	}
}

// isZero says whether nothing is there, not even an empty list.
func isZero(p api.Place) bool {
	return p.Me == 0 && p.Time == 0 && p.Seq == 0 && p.Keep == nil
}

// full answers a place with as much of all as it may have.
func full() api.Place {
	p := api.Place{Me: 0, Time: api.MaxTime - 1, Seq: api.MaxSeq}
	for i := range api.MaxKeep {
		h := api.Head{From: 1 + i/6, Seq: 44 + i%6, To: 0, Till: api.MaxTime, P: api.Plan{Bytes: 360, Block: 16}}
		k := api.Kept{H: h, Shares: 64, Giving: 64, Towards: 3, Try: 9999, Took: taken(api.MaxTook)}
		k.Took[0] = api.Taken{Place: 3, Try: 9999}
		for id := range api.MaxSymbols {
			k.Symbols = append(k.Symbols, api.Symbol{ID: 9999 - id, Data: make(api.Block, 16)})
		}
		p.Keep = append(p.Keep, k)
	}
	return p
}

// P9.1: what may be, up to the edges.
func TestCheckTakes(t *testing.T) {
	for _, c := range []struct {
		name string
		p    api.Place
		f    func(p *api.Place)
	}{
		{"nothing", api.Place{}, func(p *api.Place) {}},
		{"one of each kind", sample(), func(p *api.Place) {}},
		{"as much as may be", full(), func(p *api.Place) {}},
		{"empty lists", api.Place{Keep: []api.Kept{}}, func(p *api.Place) {}},
		{"empty lists of a bundle", sample(), on(atBare, func(k *api.Kept) {
			k.Cargo, k.Symbols, k.Took = []byte{}, []api.Symbol{}, []api.Taken{}
		})},
		{"empty lists of what is own", sample(), on(atOwn, func(k *api.Kept) { k.Symbols, k.Took = []api.Symbol{}, []api.Taken{} })},
		{"empty lists of what is delivered", sample(), on(atDelivered, func(k *api.Kept) { k.Cargo, k.Symbols = []byte{}, []api.Symbol{} })},
		{"the last time", api.Place{Time: 1000000}, func(p *api.Place) {}},
		{"the last number", api.Place{Seq: 50}, func(p *api.Place) {}},
		{"the last place", api.Place{Me: 3}, func(p *api.Place) {}},
		{"a time ahead of all", sample(), func(p *api.Place) { p.Time = 0 }},
		{"Towards 0", sample(), on(atGiving, func(k *api.Kept) { k.Towards = 0 })},
		{"Towards who sent it", sample(), on(atOwn, func(k *api.Kept) { k.Giving, k.Towards, k.Try = 1, 3, 1 })},
		{"Towards to whom it goes", sample(), on(atOwn, func(k *api.Kept) { k.Giving, k.Towards, k.Try = 1, 0, 1 })},
		{"Giving 1, no Shares", sample(), on(atGiving, func(k *api.Kept) { k.Shares, k.Giving = 0, 1 })},
		{"Giving 64, Shares 64", sample(), on(atGiving, func(k *api.Kept) { k.Shares, k.Giving = 64, 64 })},
		{"a try, and nothing is given", sample(), on(atBare, func(k *api.Kept) { k.Try = 9999 })},
		{"no try, and nothing is given", sample(), on(atGiving, func(k *api.Kept) { k.Giving, k.Towards, k.Try = 0, 0, 0 })},
		{"took from itself", sample(), on(atBare, func(k *api.Kept) { k.Took = []api.Taken{{Place: 2, Try: 1}} })},
		{"took, and has no shares", sample(), on(atBare, func(k *api.Kept) { k.Took = taken(40) })},
		{"own, and took", sample(), on(atOwn, func(k *api.Kept) { k.Took = taken(40) })},
		{"own, and purged", sample(), on(atOwn, func(k *api.Kept) { k.Shares, k.Purged = 0, true })},
		{"purged, and it goes here", sample(), on(atBare, func(k *api.Kept) { k.Purged = true })},
		{"delivered", sample(), on(atBare, func(k *api.Kept) { k.Delivered = true })},
		{"symbols of one data", sample(), on(atBare, func(k *api.Kept) { k.Symbols = []api.Symbol{symbol(0, 1, 2), symbol(1, 1, 2)} })},
		{"symbols that can't be of one cargo", sample(), on(atBare, func(k *api.Kept) {
			k.Symbols = []api.Symbol{symbol(0, 1, 2), symbol(1, 3, 4), symbol(2, 5, 6), symbol(7, 9, 9)}
		})},
		{"one number of two senders", sample(), on(atPurged, func(k *api.Kept) { k.H.Seq = 3 })},
		{"two own ones", sample(), func(p *api.Place) {
			k := p.Keep[atOwn]
			k.H.Seq = 0
			p.Keep = slices.Insert(p.Keep, atOwn, k)
		}},
		{"a number of another sender above Seq", sample(), func(p *api.Place) { p.Keep[atBare].H.Seq = 49 }},
	} {
		if e := Check(changed(c.p, c.f)); e != api.OK {
			t.Errorf("%s: %d, want OK", c.name, e)
		}
	}
}

// wrong is something that Check refuses.
type wrong struct {
	name string
	f    func(p *api.Place)
	want api.Errno
}

// wrongPlace: what is wrong with a place itself, in the order in which it is told.
var wrongPlace = [][]wrong{
	{
		{"Me -1", func(p *api.Place) { p.Me = -1 }, api.ErrRange},
		{"Me 4", func(p *api.Place) { p.Me = 4 }, api.ErrRange},
		{"Me least", func(p *api.Place) { p.Me = math.MinInt }, api.ErrRange},
		{"Me most", func(p *api.Place) { p.Me = math.MaxInt }, api.ErrRange},
		{"Time -1", func(p *api.Place) { p.Time = -1 }, api.ErrRange},
		{"Time 1000001", func(p *api.Place) { p.Time = 1000001 }, api.ErrRange},
		{"Seq -1", func(p *api.Place) { p.Seq = -1 }, api.ErrRange},
		{"Seq 51", func(p *api.Place) { p.Seq = 51 }, api.ErrRange},
	},
	{
		{"13 bundles", func(p *api.Place) {
			for seq := range 8 {
				h := api.Head{From: 3, Seq: 10 + seq, To: 2, Till: 50, P: plan}
				p.Keep = append(p.Keep, api.Kept{H: h})
			}
		}, api.ErrMany},
	},
}

// wrongKept: what is wrong with the bundle that gives, in the order in which it is told.
var wrongKept = [][]wrong{
	{
		{"From -1", on(atGiving, func(k *api.Kept) { k.H.From = -1 }), api.ErrRange},
		{"From 4", on(atGiving, func(k *api.Kept) { k.H.From = 4 }), api.ErrRange},
		{"To 4", on(atGiving, func(k *api.Kept) { k.H.To = 4 }), api.ErrRange},
		{"Seq 50", on(atGiving, func(k *api.Kept) { k.H.Seq = 50 }), api.ErrRange},
		{"Till 1000001", on(atGiving, func(k *api.Kept) { k.H.Till = 1000001 }), api.ErrRange},
		{"To is From", on(atGiving, func(k *api.Kept) { k.H.To = k.H.From }), api.ErrWho},
		{"Block 0", on(atGiving, func(k *api.Kept) { k.H.P.Block = 0 }), api.ErrRange},
		{"25 blocks", on(atGiving, func(k *api.Kept) { k.H.P = api.Plan{Bytes: 25, Block: 1} }), api.ErrMany},
	},
	{
		{"Till is Time", on(atGiving, func(k *api.Kept) { k.H.Till = 10 }), api.ErrLate},
		{"Till is below Time", on(atGiving, func(k *api.Kept) { k.H.Till = 1 }), api.ErrLate},
	},
	{
		{"Own of another place", on(atGiving, func(k *api.Kept) { k.Own = true }), api.ErrForm},
		{"Own of another place, with all of it", on(atGiving, func(k *api.Kept) { k.Own, k.Symbols, k.Cargo = true, nil, cargo() }), api.ErrForm},
		{"a cargo that isn't own", on(atGiving, func(k *api.Kept) { k.Cargo = cargo() }), api.ErrForm},
		{"a byte that isn't own", on(atGiving, func(k *api.Kept) { k.Cargo = []byte{0} }), api.ErrForm},
	},
	{
		{"61 symbols", on(atGiving, func(k *api.Kept) { k.Symbols = symbols(61) }), api.ErrMany},
		{"41 taken", on(atGiving, func(k *api.Kept) { k.Took = taken(41) }), api.ErrMany},
	},
	{
		{"ID -1", withSymbol(symbol(-1, 1, 2)), api.ErrRange},
		{"ID 10000", withSymbol(symbol(10000, 1, 2)), api.ErrRange},
		{"no data", withSymbol(symbol(9)), api.ErrForm},
		{"a byte too few", withSymbol(symbol(9, 1)), api.ErrForm},
		{"a byte too many", withSymbol(symbol(9, 1, 2, 3)), api.ErrForm},
		{"a number twice", withSymbol(symbol(7, 4, 2)), api.ErrTwice},
		{"a number twice, with other data", withSymbol(symbol(7, 0, 0)), api.ErrTwice},
		{"the number ahead twice", withSymbol(symbol(1, 3, 4)), api.ErrTwice},
	},
	{
		{"Shares -1", on(atGiving, func(k *api.Kept) { k.Shares = -1 }), api.ErrRange},
		{"Shares 65", on(atGiving, func(k *api.Kept) { k.Shares = 65 }), api.ErrRange},
		{"Giving -1", on(atGiving, func(k *api.Kept) { k.Giving = -1 }), api.ErrRange},
		{"Giving 65", on(atGiving, func(k *api.Kept) { k.Giving = 65 }), api.ErrRange},
		{"Towards -1", on(atGiving, func(k *api.Kept) { k.Towards = -1 }), api.ErrRange},
		{"Towards 4", on(atGiving, func(k *api.Kept) { k.Towards = 4 }), api.ErrRange},
		{"Try -1", on(atGiving, func(k *api.Kept) { k.Try = -1 }), api.ErrRange},
		{"Try 10000", on(atGiving, func(k *api.Kept) { k.Try = 10000 }), api.ErrRange},
		{"Towards 4, Giving 0", on(atGiving, func(k *api.Kept) { k.Giving, k.Towards = 0, 4 }), api.ErrRange},
	},
	{
		{"Giving 0 towards somebody", on(atGiving, func(k *api.Kept) { k.Giving = 0 }), api.ErrForm},
		{"Giving to itself", on(atGiving, func(k *api.Kept) { k.Towards = 2 }), api.ErrForm},
		{"Giving by no try", on(atGiving, func(k *api.Kept) { k.Try = 0 }), api.ErrForm},
	},
	{
		{"Took of place -1", withTaken(api.Taken{Place: -1, Try: 9}), api.ErrRange},
		{"Took of place 4", withTaken(api.Taken{Place: 4, Try: 9}), api.ErrRange},
		{"Took of try 0", withTaken(api.Taken{Place: 0, Try: 0}), api.ErrRange},
		{"Took of try -1", withTaken(api.Taken{Place: 0, Try: -1}), api.ErrRange},
		{"Took of try 10000", withTaken(api.Taken{Place: 0, Try: 10000}), api.ErrRange},
		{"Took twice", withTaken(api.Taken{Place: 0, Try: 1}), api.ErrTwice},
		{"Took the last one twice", withTaken(api.Taken{Place: 1, Try: 7}), api.ErrTwice},
	},
	{
		{"Delivered, and all of it is there", on(atGiving, func(k *api.Kept) { k.Delivered = true }), api.ErrForm},
		{"Purged, and all of it is there", on(atGiving, func(k *api.Kept) { k.Purged = true }), api.ErrForm},
		{"Delivered, and Purged", on(atGiving, func(k *api.Kept) { k.Delivered, k.Purged = true, true }), api.ErrForm},
	},
}

// withSymbol answers a change that lays a symbol behind the others of the bundle that gives.
func withSymbol(s api.Symbol) func(p *api.Place) {
	return on(atGiving, func(k *api.Kept) { k.Symbols = append(k.Symbols, s) })
}

// withTaken is the same of what it took.
func withTaken(x api.Taken) func(p *api.Place) {
	return on(atGiving, func(k *api.Kept) { k.Took = append(k.Took, x) })
}

// wrongLater: what is wrong with bundles behind that one.
var wrongLater = []wrong{
	{"no head", on(atDelivered, func(k *api.Kept) { k.H = api.Head{} }), api.ErrRange},
	{"to itself", on(atDelivered, func(k *api.Kept) { k.H.To = 1 }), api.ErrWho},
	{"Delivered, and it goes elsewhere", on(atDelivered, func(k *api.Kept) { k.H.To = 3 }), api.ErrForm},
	{"Delivered, and too late", on(atDelivered, func(k *api.Kept) { k.H.Till = 10 }), api.ErrLate},
	{"the clock reaches a bundle", func(p *api.Place) { p.Time = 11 }, api.ErrLate},
	{"Delivered, with Shares", on(atDelivered, func(k *api.Kept) { k.Shares = 1 }), api.ErrForm},
	{"Delivered, with Giving", on(atDelivered, func(k *api.Kept) { k.Giving = 1 }), api.ErrForm},
	{"Delivered, with Giving towards somebody", on(atDelivered, func(k *api.Kept) { k.Giving, k.Towards = 1, 3 }), api.ErrForm},
	{"Delivered, with Towards", on(atDelivered, func(k *api.Kept) { k.Towards = 3 }), api.ErrForm},
	{"Delivered, with a symbol", on(atDelivered, func(k *api.Kept) { k.Symbols = symbols(1) }), api.ErrForm},
	{"Delivered, with its cargo", on(atDelivered, func(k *api.Kept) { k.Cargo = cargo() }), api.ErrForm},
	{"Delivered, and Purged", on(atDelivered, func(k *api.Kept) { k.Purged = true }), api.ErrForm},
	{"Purged, with Shares", on(atPurged, func(k *api.Kept) { k.Shares = 1 }), api.ErrForm},
	{"Purged, with Giving", on(atPurged, func(k *api.Kept) { k.Giving, k.Towards, k.Try = 1, 3, 1 }), api.ErrForm},
	{"Purged, with a symbol", on(atPurged, func(k *api.Kept) { k.Symbols = symbols(1) }), api.ErrForm},
	{"own, and Purged, with Shares", on(atOwn, func(k *api.Kept) { k.Purged = true }), api.ErrForm},
	{"own, and Delivered", on(atOwn, func(k *api.Kept) { k.Shares, k.Delivered = 0, true }), api.ErrForm},
	{"not Own of this place", on(atOwn, func(k *api.Kept) { k.Own = false }), api.ErrForm},
	{"not Own of this place, with nothing", on(atOwn, func(k *api.Kept) { k.Own, k.Cargo = false, nil }), api.ErrForm},
	{"own, without cargo", on(atOwn, func(k *api.Kept) { k.Cargo = nil }), api.ErrForm},
	{"own, a byte too few", on(atOwn, func(k *api.Kept) { k.Cargo = k.Cargo[:4] }), api.ErrForm},
	{"own, a byte too many", on(atOwn, func(k *api.Kept) { k.Cargo = append(k.Cargo, 0) }), api.ErrForm},
	{"own, with a symbol", on(atOwn, func(k *api.Kept) { k.Symbols = symbols(1) }), api.ErrForm},
	{"own, with too many symbols", on(atOwn, func(k *api.Kept) { k.Symbols = symbols(61) }), api.ErrForm},
	{"own, of the next number", on(atOwn, func(k *api.Kept) { k.H.Seq = 5 }), api.ErrForm},
	{"own, of a number above", on(atOwn, func(k *api.Kept) { k.H.Seq = 49 }), api.ErrForm},
	{"the next number is below", func(p *api.Place) { p.Seq = 4 }, api.ErrForm},
	{"a bundle twice", func(p *api.Place) { p.Keep = slices.Insert(p.Keep, atBare, p.Keep[atBare]) }, api.ErrTwice},
	{"a bundle twice, with another head", func(p *api.Place) {
		p.Keep = slices.Insert(p.Keep, atBare, p.Keep[atBare])
		p.Keep[atBare].H.Till++
	}, api.ErrTwice},
	{"by numbers the other way round", func(p *api.Place) {
		p.Keep[atDelivered], p.Keep[atPurged] = p.Keep[atPurged], p.Keep[atDelivered]
	}, api.ErrTwice},
	{"by senders the other way round", func(p *api.Place) { p.Keep[atOwn], p.Keep[atBare] = p.Keep[atBare], p.Keep[atOwn] }, api.ErrTwice},
	{"by numbers alone", func(p *api.Place) { slices.Reverse(p.Keep[atPurged:]) }, api.ErrTwice},
	{"own and of the next number ahead of its place", func(p *api.Place) {
		p.Keep[atOwn], p.Keep[atBare] = p.Keep[atBare], p.Keep[atOwn]
		p.Seq = 4
	}, api.ErrForm},
	{"the second one's place ahead of the third one's head", func(p *api.Place) {
		p.Keep[atDelivered].H.From = 0
		p.Keep[atPurged].H.To = 1
	}, api.ErrTwice},
	{"the second one's head ahead of its place", on(atDelivered, func(k *api.Kept) { k.H.From, k.H.To = 0, 0 }), api.ErrWho},
	{"the second one's time ahead of the third one's head", func(p *api.Place) {
		p.Keep[atDelivered].H.Till = 10
		p.Keep[atPurged].H.P.Block = 0
	}, api.ErrLate},
	{"a symbol's number ahead of the next one's data", func(p *api.Place) {
		p.Keep[atBare].Symbols = []api.Symbol{symbol(1, 0, 0), symbol(1, 0, 0), symbol(2)}
	}, api.ErrTwice},
	{"a symbol's data ahead of its number", func(p *api.Place) {
		p.Keep[atBare].Symbols = []api.Symbol{symbol(1, 0, 0), symbol(1)}
	}, api.ErrForm},
	{"what was taken twice ahead of the next one's place", func(p *api.Place) {
		p.Keep[atBare].Took = []api.Taken{{Place: 1, Try: 1}, {Place: 1, Try: 1}, {Place: 9, Try: 1}}
	}, api.ErrTwice},
	{"a wrong place twice", func(p *api.Place) {
		p.Keep[atBare].Took = []api.Taken{{Place: 9, Try: 1}, {Place: 9, Try: 1}}
	}, api.ErrRange},
}

// P9.1: each thing that may not be, alone.
func TestCheckRefuses(t *testing.T) {
	all := slices.Concat(slices.Concat(wrongPlace...), slices.Concat(wrongKept...), wrongLater)
	for _, c := range all {
		p := changed(sample(), c.f)
		if e := Check(p); e != c.want {
			t.Errorf("%s: %d, want %d", c.name, e, c.want)
		}
		// Next says it ahead of what is wrong with the record.
		for _, r := range []api.Rec{{}, {Kind: api.RTick, N: 20}, {Kind: api.RTick, N: -1}} {
			if q, e := Next(p, r); e != c.want || !isZero(q) {
				t.Errorf("%s, then %+v: %+v, %d, want %d", c.name, r, q, e, c.want)
			}
		}
	}
}

// P9.1, P3: of two things that are wrong, the one that is told first.
func TestCheckOrder(t *testing.T) {
	steps := slices.Concat(wrongPlace, wrongKept, [][]wrong{wrongLater})
	for i, step := range steps {
		for _, first := range step {
			for _, second := range slices.Concat(steps[i+1:]...) {
				// What is told first is done last, so that the other one can't mend it.
				p := changed(sample(), second.f, first.f)
				if e := Check(p); e != first.want {
					t.Errorf("%s, %s: %d, want %d", first.name, second.name, e, first.want)
				}
			}
		}
	}
}
