package keep

import (
	"slices"
	"testing"

	"bottlepost/api"
)

// Heads of the sample's bundles, and of some that aren't there.
var (
	givingHead    = api.Head{From: 0, Seq: 3, To: 2, Till: 50, P: plan}
	deliveredHead = api.Head{From: 1, Seq: 0, To: 2, Till: 11, P: plan}
	purgedHead    = api.Head{From: 1, Seq: 4, To: 3, Till: 60, P: plan}
	ownHead       = api.Head{From: 2, Seq: 4, To: 0, Till: 40, P: plan}
	bareHead      = api.Head{From: 3, Seq: 2, To: 2, Till: 50, P: plan}
	nextHead      = api.Head{From: 2, Seq: 5, To: 1, Till: 11, P: plan}
	strangeHead   = api.Head{From: 1, Seq: 2, To: 3, Till: 11, P: plan}
)

// but answers a head with one thing changed.
func but(h api.Head, f func(h *api.Head)) api.Head {
	f(&h)
	return h
}

func till(h api.Head, n int) api.Head { return but(h, func(h *api.Head) { h.Till = n }) }

// crowd lays so many bundles behind all others that 12 are there.
func crowd(p *api.Place) {
	for seq := 10; len(p.Keep) < api.MaxKeep; seq++ {
		p.Keep = append(p.Keep, api.Kept{H: but(bareHead, func(h *api.Head) { h.Seq = seq })})
	}
}

// crowdButOne leaves room for one bundle.
func crowdButOne(p *api.Place) {
	crowd(p)
	p.Keep = p.Keep[:api.MaxKeep-1]
}

// same changes nothing.
func same(p *api.Place) {}

// step is a record at the sample, changed by ahead; what it makes of that is the same changed by then.
type step struct {
	name  string
	ahead func(p *api.Place)
	r     api.Rec
	want  api.Errno
	then  func(p *api.Place)
}

func runSteps(t *testing.T, l []step) {
	t.Helper()
	for _, c := range l {
		p := changed(sample(), c.ahead)
		if e := Check(p); e != api.OK {
			t.Errorf("%s: no place, %d", c.name, e)
			continue
		}
		q, e := Next(p, c.r)
		if e != c.want {
			t.Errorf("%s: %d, want %d", c.name, e, c.want)
			continue
		}
		if e != api.OK {
			if !isZero(q) {
				t.Errorf("%s: %+v beside an error", c.name, q)
			}
			continue
		}
		if want := changed(changed(sample(), c.ahead), c.then); !Same(q, want) {
			t.Errorf("%s:\n%+v, want\n%+v", c.name, q, want)
		}
		if e := Check(q); e != api.OK {
			t.Errorf("%s: Check of what it makes: %d", c.name, e)
		}
	}
}

// come answers a change by which a bundle comes, in its place.
func come(at int, k api.Kept) func(p *api.Place) {
	return func(p *api.Place) { p.Keep = slices.Insert(p.Keep, at, k) }
}

// P9.2: a record that is none is told ahead of all that is asked of its bundle.
func TestNextAsksTheRecord(t *testing.T) {
	late := till(givingHead, 10)
	runSteps(t, []step{
		{"nothing", same, api.Rec{}, api.ErrForm, nil},
		{"no kind", same, api.Rec{Kind: 9, H: late}, api.ErrForm, nil},
		{"needless", same, api.Rec{Kind: api.RPurge, N: 1, H: late}, api.ErrForm, nil},
		{"no such try", same, api.Rec{Kind: api.RTake, Try: 10000, H: late}, api.ErrRange, nil},
		{"to itself", same, api.Rec{Kind: api.RPurge, H: but(late, func(h *api.Head) { h.To = 0 })}, api.ErrWho, nil},
		{"too many blocks", same, api.Rec{Kind: api.RPurge, H: but(late, func(h *api.Head) { h.P = api.Plan{Bytes: 25, Block: 1} })}, api.ErrMany, nil},
		{"a byte too few", same, api.Rec{Kind: api.RKeep, H: late, S: symbol(1, 1)}, api.ErrForm, nil},
		{"no cargo", same, api.Rec{Kind: api.RDeliver, H: late}, api.ErrForm, nil},
		{"no such time", same, api.Rec{Kind: api.RTick, N: 1000001}, api.ErrRange, nil},
		{"the last number is used up", func(p *api.Place) { p.Seq = 50 }, api.Rec{Kind: api.RSend, N: 1, H: but(nextHead, func(h *api.Head) { h.Seq = 50 }), Cargo: cargo()}, api.ErrRange, nil},
	})
}

func sendOf(n int, h api.Head) api.Rec {
	return api.Rec{Kind: api.RSend, N: n, H: h, Cargo: cargo()}
}

// P9.2: RSend.
func TestSend(t *testing.T) {
	comes := func(n int) func(p *api.Place) {
		return func(p *api.Place) {
			p.Seq++
			come(4, api.Kept{H: nextHead, Own: true, Cargo: cargo(), Shares: n})(p)
		}
	}
	others := but(nextHead, func(h *api.Head) { h.From = 0 })
	elder := but(nextHead, func(h *api.Head) { h.Seq = 4 })
	newer := but(nextHead, func(h *api.Head) { h.Seq = 6 })
	runSteps(t, []step{
		{"a share", same, sendOf(1, nextHead), api.OK, comes(1)},
		{"all shares", same, sendOf(64, nextHead), api.OK, comes(64)},
		{"room for one", crowdButOne, sendOf(9, nextHead), api.OK, comes(9)},
		{"the last number", func(p *api.Place) { p.Seq = 49 }, sendOf(3, but(nextHead, func(h *api.Head) { h.Seq = 49 })), api.OK, func(p *api.Place) {
			p.Seq = 50
			come(4, api.Kept{H: but(nextHead, func(h *api.Head) { h.Seq = 49 }), Own: true, Cargo: cargo(), Shares: 3})(p)
		}},
		{"the first one of all", func(p *api.Place) { p.Keep, p.Seq = nil, 5 }, sendOf(3, nextHead), api.OK, func(p *api.Place) {
			p.Seq = 6
			come(0, api.Kept{H: nextHead, Own: true, Cargo: cargo(), Shares: 3})(p)
		}},
		{"from another place", same, sendOf(1, others), api.ErrWho, nil},
		{"from another place, and all else", crowd, sendOf(0, till(but(others, func(h *api.Head) { h.Seq = 9 }), 1)), api.ErrWho, nil},
		{"a number that was", same, sendOf(1, elder), api.ErrLate, nil},
		{"a number that was, of a bundle that is gone", same, sendOf(1, but(nextHead, func(h *api.Head) { h.Seq = 0 })), api.ErrLate, nil},
		{"a number that isn't yet", same, sendOf(1, newer), api.ErrLate, nil},
		{"till now", same, sendOf(1, till(nextHead, 10)), api.ErrLate, nil},
		{"till long ago", same, sendOf(1, till(nextHead, 1)), api.ErrLate, nil},
		{"late, no shares", crowd, sendOf(0, till(nextHead, 10)), api.ErrLate, nil},
		{"a wrong number, too many shares", crowd, sendOf(65, newer), api.ErrLate, nil},
		{"no shares", same, sendOf(0, nextHead), api.ErrRange, nil},
		{"too many shares", same, sendOf(65, nextHead), api.ErrRange, nil},
		{"no shares, no room", crowd, sendOf(0, nextHead), api.ErrRange, nil},
		{"no room", crowd, sendOf(1, nextHead), api.ErrMany, nil},
	})
}

// P9.2: RTick.
func TestTick(t *testing.T) {
	tickOf := func(n int) api.Rec { return api.Rec{Kind: api.RTick, N: n} }
	left := func(now int, at ...int) func(p *api.Place) {
		return func(p *api.Place) {
			p.Time = now
			var l []api.Kept
			for _, i := range at {
				l = append(l, p.Keep[i])
			}
			p.Keep = l
		}
	}
	early := func(p *api.Place) { p.Time = 5 }
	runSteps(t, []step{
		{"back", same, tickOf(9), api.ErrLate, nil},
		{"back to the begin", same, tickOf(0), api.ErrLate, nil},
		{"no further", same, tickOf(10), api.ErrLate, nil},
		{"from the begin, no further", func(p *api.Place) { *p = api.Place{} }, tickOf(0), api.ErrLate, nil},
		{"nothing is too late", early, tickOf(10), api.OK, left(10, 0, 1, 2, 3, 4)},
		{"what is delivered is too late", same, tickOf(11), api.OK, left(11, 0, 2, 3, 4)},
		{"just ahead of another one", same, tickOf(39), api.OK, left(39, 0, 2, 3, 4)},
		{"what is own is too late", same, tickOf(40), api.OK, left(40, 0, 2, 4)},
		{"two at once", same, tickOf(50), api.OK, left(50, 2)},
		{"just ahead of the last one", same, tickOf(59), api.OK, left(59, 2)},
		{"all of them", same, tickOf(60), api.OK, left(60)},
		{"to the end", same, tickOf(1000000), api.OK, left(1000000)},
		{"over the end", func(p *api.Place) { *p = api.Place{Time: 1000000} }, tickOf(1000000), api.ErrLate, nil},
	})
}

// ofBundle answers a record of each kind that is of a bundle; but for the bundle, nothing is wrong with it.
func ofBundle(h api.Head) []api.Rec {
	return []api.Rec{
		{Kind: api.RKeep, H: h, S: symbol(2, 5, 0)},
		{Kind: api.RTake, Place: 1, N: 1, Try: 9, H: h},
		{Kind: api.RPurge, H: h},
		{Kind: api.RDeliver, H: h, Cargo: cargo()},
		{Kind: api.RGive, Place: 3, N: 1, Try: 5, H: h},
		{Kind: api.RGiven, Try: 4, H: h},
	}
}

// P9.2: whether its bundle is there, in time, and has that head, is asked of all kinds alike.
func TestNextAsksTheBundle(t *testing.T) {
	heads := map[string]func(h *api.Head){
		"To":    func(h *api.Head) { h.To = 1 },
		"Till":  func(h *api.Head) { h.Till++ },
		"Bytes": func(h *api.Head) { h.P.Bytes = 6 },
	}
	var l []step
	for i := range ofBundle(givingHead) {
		record := func(h api.Head) api.Rec {
			r := ofBundle(h)[i]
			if r.Kind == api.RDeliver {
				r.Cargo = make([]byte, h.P.Bytes)
			}
			return r
		}
		kind := record(givingHead).Kind
		mayCome := kind == api.RKeep || kind == api.RTake || kind == api.RPurge
		or := func(e api.Errno) api.Errno {
			if mayCome {
				return e
			}
			return api.ErrWho
		}
		mine := but(ownHead, func(h *api.Head) { h.Seq = 3 })
		from := len(l)
		l = append(l,
			step{"it is there, late", same, record(till(givingHead, 10)), api.ErrLate, nil},
			step{"it is there, later", same, record(till(givingHead, 1)), api.ErrLate, nil},
			step{"it is delivered, late", same, record(till(deliveredHead, 10)), api.ErrLate, nil},
			step{"it isn't there, late", same, record(till(strangeHead, 10)), or(api.ErrLate), nil},
			step{"it isn't there, late, no room", crowd, record(till(strangeHead, 10)), or(api.ErrLate), nil},
			step{"it isn't there, no room", crowd, record(strangeHead), or(api.ErrMany), nil},
			step{"of this place, it isn't there", same, record(mine), api.ErrWho, nil},
			step{"of this place, it isn't there, no room", crowd, record(mine), api.ErrWho, nil},
			step{"of this place, it isn't there, late", same, record(till(mine, 10)), or(api.ErrLate), nil},
			step{"of this place, of a number that isn't yet", same, record(nextHead), api.ErrWho, nil},
			step{"another head, delivered", same, record(till(deliveredHead, 12)), api.ErrForm, nil},
			step{"another head, purged", same, record(till(purgedHead, 11)), api.ErrForm, nil},
			step{"another head, own", same, record(till(ownHead, 41)), api.ErrForm, nil},
			step{"another head, bare, no room", crowd, record(till(bareHead, 51)), api.ErrForm, nil},
		)
		for name, f := range heads {
			l = append(l, step{"another " + name, same, record(but(givingHead, f)), api.ErrForm, nil})
		}
		for j := range l[from:] {
			l[from+j].name = ofKind(kind) + l[from+j].name
		}
	}
	runSteps(t, l)
}

func ofKind(kind int) string {
	return []string{"", "RSend", "RKeep", "RDeliver", "RGive", "RGiven", "RTake", "RPurge", "RTick"}[kind] + ": "
}

// P9.2: where a bundle comes that wasn't there.
func TestNextComes(t *testing.T) {
	var l []step
	for _, c := range []struct {
		from, seq, at int
	}{
		{0, 0, 0}, {0, 2, 0}, {0, 4, 1}, {0, 49, 1}, {1, 1, 2}, {1, 3, 2}, {1, 5, 3}, {3, 0, 4}, {3, 1, 4}, {3, 3, 5}, {3, 49, 5},
	} {
		h := api.Head{From: c.from, Seq: c.seq, To: 2, Till: 11, P: plan}
		kept := api.Kept{H: h, Symbols: []api.Symbol{symbol(9999, 0, 9)}}
		took := api.Kept{H: h, Shares: 64, Took: []api.Taken{{Place: 3, Try: 9999}}}
		l = append(l,
			step{"a symbol", same, api.Rec{Kind: api.RKeep, H: h, S: symbol(9999, 0, 9)}, api.OK, come(c.at, kept)},
			step{"a symbol, room for one", crowdButOne, api.Rec{Kind: api.RKeep, H: but(h, func(h *api.Head) { h.From = 0; h.Seq = 0 }), S: symbol(9999, 0, 9)}, api.OK,
				come(0, api.Kept{H: but(h, func(h *api.Head) { h.From = 0; h.Seq = 0 }), Symbols: kept.Symbols})},
			step{"shares", same, api.Rec{Kind: api.RTake, Place: 3, N: 64, Try: 9999, H: h}, api.OK, come(c.at, took)},
			step{"it was delivered elsewhere", same, api.Rec{Kind: api.RPurge, H: h}, api.OK, come(c.at, api.Kept{H: h, Purged: true})},
			// What is wrong with the shares leaves no bundle behind.
			step{"no shares", same, api.Rec{Kind: api.RTake, Place: 3, N: 0, Try: 1, H: h}, api.ErrRange, nil},
			step{"too many shares", same, api.Rec{Kind: api.RTake, Place: 3, N: 65, Try: 1, H: h}, api.ErrRange, nil},
		)
	}
	runSteps(t, l)
}

// P9.2: RKeep.
func TestKeep(t *testing.T) {
	keepOf := func(h api.Head, s api.Symbol) api.Rec { return api.Rec{Kind: api.RKeep, H: h, S: s} }
	many := on(atGiving, func(k *api.Kept) { k.Symbols = symbols(60) })
	manyButOne := on(atGiving, func(k *api.Kept) { k.Symbols = symbols(59) })
	ownPurged := on(atOwn, func(k *api.Kept) { k.Shares, k.Purged = 0, true })
	runSteps(t, []step{
		{"behind all", same, keepOf(givingHead, symbol(0, 9, 9)), api.OK, withSymbol(symbol(0, 9, 9))},
		{"the last of all", manyButOne, keepOf(givingHead, symbol(59, 9, 9)), api.OK, withSymbol(symbol(59, 9, 9))},
		{"one that can't be of the same cargo", same, keepOf(givingHead, symbol(10, 0, 1)), api.OK, withSymbol(symbol(10, 0, 1))},
		{"the first one", same, keepOf(bareHead, symbol(5, 1, 1)), api.OK, on(atBare, func(k *api.Kept) { k.Symbols = []api.Symbol{symbol(5, 1, 1)} })},
		{"no room for a bundle, but it is there", crowd, keepOf(bareHead, symbol(5, 1, 1)), api.OK, on(atBare, func(k *api.Kept) { k.Symbols = []api.Symbol{symbol(5, 1, 1)} })},
		{"own", same, keepOf(ownHead, symbol(0, 1, 2)), api.ErrWho, nil},
		{"own, and purged", ownPurged, keepOf(ownHead, symbol(0, 1, 2)), api.ErrWho, nil},
		{"delivered", same, keepOf(deliveredHead, symbol(0, 1, 2)), api.ErrLate, nil},
		{"purged", same, keepOf(purgedHead, symbol(0, 1, 2)), api.ErrLate, nil},
		{"twice", same, keepOf(givingHead, symbol(7, 4, 2)), api.ErrTwice, nil},
		{"twice, with other data", same, keepOf(givingHead, symbol(1, 9, 9)), api.ErrTwice, nil},
		{"twice, and no room", many, keepOf(givingHead, symbol(59, 9, 9)), api.ErrTwice, nil},
		{"no room", many, keepOf(givingHead, symbol(60, 9, 9)), api.ErrMany, nil},
	})
}

// P9.2: RDeliver.
func TestDeliver(t *testing.T) {
	deliverOf := func(h api.Head, cargo ...byte) api.Rec { return api.Rec{Kind: api.RDeliver, H: h, Cargo: cargo} }
	done := on(atGiving, func(k *api.Kept) {
		k.Symbols, k.Shares, k.Giving, k.Towards, k.Delivered = nil, 0, 0, 0, true
	})
	enough := withSymbol(symbol(0, 1, 2))
	elsewhere := func(at int) func(p *api.Place) {
		return func(p *api.Place) {
			p.Keep[at].H.To = 1
			p.Keep[at].Symbols = []api.Symbol{symbol(0, 1, 2), symbol(1, 3, 4), symbol(2, 5, 0)}
		}
	}
	toOne := func(h *api.Head) { h.To = 1 }
	runSteps(t, []step{
		{"enough", enough, deliverOf(givingHead, 1, 2, 3, 4, 5), api.OK, done},
		{"more than enough", func(p *api.Place) { enough(p); withSymbol(symbol(2, 5, 0))(p) }, deliverOf(givingHead, 1, 2, 3, 4, 5), api.OK, done},
		{"not enough", same, deliverOf(givingHead, 1, 2, 3, 4, 5), api.ErrShort, nil},
		{"not enough, another cargo", same, deliverOf(givingHead, 0, 0, 0, 0, 0), api.ErrShort, nil},
		{"no symbols", same, deliverOf(bareHead, 1, 2, 3, 4, 5), api.ErrShort, nil},
		{"symbols that can't be", func(p *api.Place) { enough(p); withSymbol(symbol(2, 6, 0))(p) }, deliverOf(givingHead, 1, 2, 3, 4, 5), api.ErrTorn, nil},
		{"symbols of no cargo", on(atBare, func(k *api.Kept) {
			k.Symbols = []api.Symbol{symbol(0, 1, 2), symbol(1, 3, 4), symbol(2, 5, 6)}
		}), deliverOf(bareHead, 1, 2, 3, 4, 5), api.ErrForm, nil},
		{"another cargo", enough, deliverOf(givingHead, 1, 2, 3, 4, 6), api.ErrTorn, nil},
		{"quite another cargo", enough, deliverOf(givingHead, 0, 0, 0, 0, 0), api.ErrTorn, nil},
		{"to another place", elsewhere(atBare), deliverOf(but(bareHead, toOne), 1, 2, 3, 4, 5), api.ErrWho, nil},
		{"own", same, deliverOf(ownHead, 1, 2, 3, 4, 5), api.ErrWho, nil},
		{"to another place, purged", same, deliverOf(purgedHead, 1, 2, 3, 4, 5), api.ErrWho, nil},
		{"again", same, deliverOf(deliveredHead, 1, 2, 3, 4, 5), api.ErrLate, nil},
		{"again, another cargo", same, deliverOf(deliveredHead, 0, 0, 0, 0, 0), api.ErrLate, nil},
		{"purged", on(atBare, func(k *api.Kept) { k.Purged = true }), deliverOf(bareHead, 1, 2, 3, 4, 5), api.ErrLate, nil},
	})
}

// P9.2: RPurge.
func TestPurge(t *testing.T) {
	purgeOf := func(h api.Head) api.Rec { return api.Rec{Kind: api.RPurge, H: h} }
	done := func(at int) func(p *api.Place) {
		return on(at, func(k *api.Kept) {
			k.Symbols, k.Shares, k.Giving, k.Towards, k.Purged = nil, 0, 0, 0, true
		})
	}
	runSteps(t, []step{
		{"it gives", same, purgeOf(givingHead), api.OK, done(atGiving)},
		{"bare", same, purgeOf(bareHead), api.OK, done(atBare)},
		{"own", same, purgeOf(ownHead), api.OK, done(atOwn)},
		{"own, and it gives", on(atOwn, func(k *api.Kept) { k.Giving, k.Towards, k.Try = 4, 1, 2 }), purgeOf(ownHead), api.OK, done(atOwn)},
		{"no room, but it is there", crowd, purgeOf(bareHead), api.OK, done(atBare)},
		{"delivered", same, purgeOf(deliveredHead), api.ErrLate, nil},
		{"again", same, purgeOf(purgedHead), api.ErrLate, nil},
	})
}

// P9.2: RGive.
func TestGive(t *testing.T) {
	giveOf := func(h api.Head, place, n, try int) api.Rec {
		return api.Rec{Kind: api.RGive, Place: place, N: n, Try: try, H: h}
	}
	shares := func(n int) func(p *api.Place) { return on(atOwn, func(k *api.Kept) { k.Shares = n }) }
	gave := func(left, giving, towards, try int) func(p *api.Place) {
		return on(atOwn, func(k *api.Kept) { k.Shares, k.Giving, k.Towards, k.Try = left, giving, towards, try })
	}
	tried := on(atOwn, func(k *api.Kept) { k.Try = 9998 })
	triedOut := on(atOwn, func(k *api.Kept) { k.Try = 9999 })
	runSteps(t, []step{
		{"half", same, giveOf(ownHead, 3, 4, 1), api.OK, gave(4, 4, 3, 1)},
		{"to the first place", same, giveOf(ownHead, 0, 4, 1), api.OK, gave(4, 4, 0, 1)},
		{"half of three", shares(3), giveOf(ownHead, 1, 1, 1), api.OK, gave(2, 1, 1, 1)},
		{"half of two", shares(2), giveOf(ownHead, 1, 1, 1), api.OK, gave(1, 1, 1, 1)},
		{"half of all", shares(64), giveOf(ownHead, 1, 32, 1), api.OK, gave(32, 32, 1, 1)},
		{"half of 63", shares(63), giveOf(ownHead, 1, 31, 1), api.OK, gave(32, 31, 1, 1)},
		{"the last try", tried, giveOf(ownHead, 1, 4, 9999), api.OK, gave(4, 4, 1, 9999)},
		{"no try is left", triedOut, giveOf(ownHead, 1, 4, 9999), api.ErrLate, nil},
		{"one above the last try", triedOut, giveOf(ownHead, 1, 4, 10000), api.ErrRange, nil},
		{"of what came", on(atBare, func(k *api.Kept) { k.Shares, k.Try = 5, 6 }), giveOf(bareHead, 3, 2, 7), api.OK, on(atBare, func(k *api.Kept) {
			k.Shares, k.Giving, k.Towards, k.Try = 3, 2, 3, 7
		})},
		{"delivered", same, giveOf(deliveredHead, 3, 1, 4), api.ErrLate, nil},
		{"delivered, to itself", same, giveOf(deliveredHead, 2, 1, 4), api.ErrLate, nil},
		{"purged, to itself", same, giveOf(purgedHead, 2, 1, 1), api.ErrLate, nil},
		{"to itself", same, giveOf(ownHead, 2, 4, 1), api.ErrWho, nil},
		{"to itself, and all else", same, giveOf(givingHead, 2, 9, 9), api.ErrWho, nil},
		{"it gives", same, giveOf(givingHead, 3, 1, 5), api.ErrLate, nil},
		{"it gives, the same again", same, giveOf(givingHead, 3, 2, 4), api.ErrLate, nil},
		{"no try", same, giveOf(ownHead, 3, 4, 0), api.ErrLate, nil},
		{"a try too far", same, giveOf(ownHead, 3, 4, 2), api.ErrLate, nil},
		{"the same try", tried, giveOf(ownHead, 3, 4, 9998), api.ErrLate, nil},
		{"a try too far, the wrong half", same, giveOf(ownHead, 3, 3, 2), api.ErrLate, nil},
		{"too few", same, giveOf(ownHead, 3, 3, 1), api.ErrRange, nil},
		{"too many", same, giveOf(ownHead, 3, 5, 1), api.ErrRange, nil},
		{"all", same, giveOf(ownHead, 3, 8, 1), api.ErrRange, nil},
		{"none", same, giveOf(ownHead, 3, 0, 1), api.ErrRange, nil},
		{"the greater half", shares(3), giveOf(ownHead, 3, 2, 1), api.ErrRange, nil},
		{"one share", shares(1), giveOf(ownHead, 3, 1, 1), api.ErrRange, nil},
		{"half of one", shares(1), giveOf(ownHead, 3, 0, 1), api.ErrRange, nil},
		{"half of none", shares(0), giveOf(ownHead, 3, 0, 1), api.ErrRange, nil},
	})
}

// P9.2: RGiven.
func TestGiven(t *testing.T) {
	givenOf := func(h api.Head, try int) api.Rec { return api.Rec{Kind: api.RGiven, Try: try, H: h} }
	ended := on(atGiving, func(k *api.Kept) { k.Giving, k.Towards = 0, 0 })
	runSteps(t, []step{
		{"it was taken", same, givenOf(givingHead, 4), api.OK, ended},
		{"an elder try", same, givenOf(givingHead, 3), api.ErrLate, nil},
		{"a try too far", same, givenOf(givingHead, 5), api.ErrLate, nil},
		{"again", ended, givenOf(givingHead, 4), api.ErrLate, nil},
		{"it never gave", same, givenOf(ownHead, 0), api.ErrLate, nil},
		{"delivered", same, givenOf(deliveredHead, 3), api.ErrLate, nil},
		{"purged", same, givenOf(purgedHead, 0), api.ErrLate, nil},
	})
}

// P9.2: RTake.
func TestTake(t *testing.T) {
	takeOf := func(h api.Head, place, n, try int) api.Rec {
		return api.Rec{Kind: api.RTake, Place: place, N: n, Try: try, H: h}
	}
	took := func(at, n int, x api.Taken) func(p *api.Place) {
		return on(at, func(k *api.Kept) { k.Shares += n; k.Took = append(k.Took, x) })
	}
	many := on(atGiving, func(k *api.Kept) { k.Took = taken(40) })
	manyButOne := on(atGiving, func(k *api.Kept) { k.Took = taken(39) })
	runSteps(t, []step{
		{"a share", same, takeOf(givingHead, 0, 1, 2), api.OK, took(atGiving, 1, api.Taken{Place: 0, Try: 2})},
		{"as many as may be", same, takeOf(givingHead, 0, 61, 2), api.OK, took(atGiving, 61, api.Taken{Place: 0, Try: 2})},
		{"one more than may be", same, takeOf(givingHead, 0, 62, 2), api.ErrRange, nil},
		{"the same try of another place", same, takeOf(givingHead, 3, 1, 7), api.OK, took(atGiving, 1, api.Taken{Place: 3, Try: 7})},
		{"an elder try", same, takeOf(givingHead, 1, 1, 3), api.OK, took(atGiving, 1, api.Taken{Place: 1, Try: 3})},
		{"the last try", same, takeOf(givingHead, 1, 1, 9999), api.OK, took(atGiving, 1, api.Taken{Place: 1, Try: 9999})},
		{"from itself", same, takeOf(givingHead, 2, 1, 1), api.OK, took(atGiving, 1, api.Taken{Place: 2, Try: 1})},
		{"own", same, takeOf(ownHead, 1, 56, 1), api.OK, took(atOwn, 56, api.Taken{Place: 1, Try: 1})},
		{"bare", same, takeOf(bareHead, 3, 64, 1), api.OK, took(atBare, 64, api.Taken{Place: 3, Try: 1})},
		{"the last of all", manyButOne, takeOf(givingHead, 0, 1, 1), api.OK, took(atGiving, 1, api.Taken{Place: 0, Try: 1})},
		{"no try", same, takeOf(givingHead, 0, 1, 0), api.ErrRange, nil},
		{"no share", same, takeOf(givingHead, 0, 0, 2), api.ErrRange, nil},
		{"no share, twice", same, takeOf(givingHead, 0, 0, 1), api.ErrRange, nil},
		{"too many shares, twice", same, takeOf(givingHead, 0, 62, 1), api.ErrRange, nil},
		{"very many shares", same, takeOf(givingHead, 0, 1000000, 2), api.ErrRange, nil},
		{"no share, no room", many, takeOf(givingHead, 0, 0, 1), api.ErrRange, nil},
		{"twice", same, takeOf(givingHead, 0, 1, 1), api.ErrTwice, nil},
		{"twice, of other shares", same, takeOf(givingHead, 1, 5, 7), api.ErrTwice, nil},
		{"twice, no room", many, takeOf(givingHead, 1, 1, 40), api.ErrTwice, nil},
		{"no room", many, takeOf(givingHead, 1, 1, 41), api.ErrMany, nil},
		{"delivered", same, takeOf(deliveredHead, 0, 1, 1), api.ErrLate, nil},
		{"delivered, twice", same, takeOf(deliveredHead, 1, 1, 1), api.ErrLate, nil},
		{"delivered, no share", same, takeOf(deliveredHead, 1, 0, 0), api.ErrLate, nil},
		{"purged", same, takeOf(purgedHead, 1, 1, 1), api.ErrLate, nil},
	})
}
