package world

import (
	"math"
	"slices"
	"testing"

	"bottlepost/api"
	"bottlepost/code"
)

// kinds answers all kinds of happenings but these.
func kinds(but ...int) []int {
	var l []int
	for kind := api.HSend; kind <= api.HBoot; kind++ {
		if !slices.Contains(but, kind) {
			l = append(l, kind)
		}
	}
	return l
}

// P11.2: what is wrong with the world is told ahead of all else.
func TestDoChecks(t *testing.T) {
	for _, kind := range append(kinds(), 0, 12, -1) {
		for _, c := range []struct {
			f    func(w *api.World)
			want api.Errno
		}{
			{func(w *api.World) { w.Nodes = w.Nodes[:3] }, api.ErrForm},
			{func(w *api.World) { w.Mail[0].To = 9 }, api.ErrRange},
			{at(3, safe("x")), api.ErrTorn},
			{at(3, safe(odd)), api.ErrLate},
		} {
			for _, node := range []int{1, 4} {
				w := sample().world(t)
				c.f(&w)
				h := api.Happening{Kind: kind, Node: node, To: 3, From: 1, N: node, Shares: 4, Block: 1, Cargo: []byte{1}}
				if x, e := Do(w, h); e != c.want || !isZero(x) {
					t.Errorf("kind %d: %+v, %d, want %d", kind, x, e, c.want)
				}
				if x, l, e := Run(w, []api.Happening{h}); e != c.want || !isZero(x) || l != nil {
					t.Errorf("kind %d: run: %+v, %v, %d, want %d", kind, x, l, e, c.want)
				}
			}
		}
	}
	if x, e := Do(api.World{}, api.Happening{}); e != api.ErrForm || !isZero(x) {
		t.Errorf("nothing: %+v, %d", x, e)
	}
}

// P11.2: a kind must be one, whatever else is wrong.
func TestDoKind(t *testing.T) {
	var l []step
	for _, kind := range []int{0, -1, 12, 13, math.MinInt, math.MaxInt} {
		for _, node := range []int{0, 1, 2, -1, 4} {
			l = append(l, step{"no kind", crashed(2), api.Happening{Kind: kind, Node: node, To: node, From: 1, N: 1}, api.ErrForm, nil})
		}
	}
	runSteps(t, l)
}

// P11.2: both must be there, also where one isn't needed; then who does something must be up, or (HBoot) down.
func TestDoWho(t *testing.T) {
	var l []step
	for _, kind := range kinds(api.HHear, api.HTwice, api.HLose) {
		x := api.Happening{Kind: kind, From: 1, N: 20, Shares: 2, Block: 1, Cargo: []byte{1}}
		for _, none := range []int{-1, 4, math.MinInt, math.MaxInt} {
			a, b := x, x
			a.Node, b.To = none, none
			both := a
			both.To = none
			for _, start := range []change{nothing, all(crashed(0), crashed(1), crashed(2), crashed(3))} {
				l = append(l, step{"no node", start, a, api.ErrWho, nil}, step{"no To", start, b, api.ErrWho, nil}, step{"neither", start, both, api.ErrWho, nil})
			}
		}
		for node := range 4 {
			x.Node = node
			start := crashed(node)
			if kind == api.HBoot {
				start = nothing
			}
			// What would be wrong behind it doesn't matter.
			for _, from := range []int{1, -1} {
				x.From, x.N = from, -x.N
				l = append(l, step{"not up, or up", start, x, api.ErrLate, nil})
			}
		}
	}
	runSteps(t, l)
}

func sends(node, to, till, shares, block int, cargo []byte) api.Happening {
	// From and Seq are of no use.
	return api.Happening{Kind: api.HSend, Node: node, To: to, N: till, Shares: shares, Block: block, Cargo: cargo, From: 77, Seq: -77}
}

// sendRec answers what is written of that.
func sendRec(x api.Happening, seq int) api.Rec {
	return api.Rec{Kind: api.RSend, N: x.Shares, Cargo: x.Cargo, H: api.Head{
		From: x.Node, Seq: seq, To: x.To, Till: x.N, P: api.Plan{Bytes: len(x.Cargo), Block: x.Block},
	}}
}

// sendsAll: node 0 sends so many bundles that it forgets soon, its clock going on.
func sendsAll(n int) change {
	return func(s *state) {
		for i := range n {
			s.logs[0] = append(s.logs[0], sendRec(sends(0, 1, 8+i, 1, 1, []byte{1}), i), api.Rec{Kind: api.RTick, N: 8 + i})
		}
	}
}

// crowds: node 0 keeps so many bundles of others.
func crowds(n int) change {
	return func(s *state) {
		for i := range n {
			s.logs[0] = append(s.logs[0], api.Rec{Kind: api.RPurge, H: api.Head{From: 2, Seq: i, To: 1, Till: 20, P: plan}})
		}
	}
}

// P11.2: a bundle is sent by the place's next number, with each error of its record.
func TestSend(t *testing.T) {
	bytes := func(n int) []byte { return make([]byte, n) }
	var l []step
	for _, c := range []struct {
		name  string
		start change
		x     api.Happening
		seq   int
	}{
		{"the first one", nothing, sends(0, 1, 8, 1, 1, []byte{7}), 0},
		{"another one", nothing, sends(1, 0, 30, 5, 2, cargo()), 3},
		{"to the last node", nothing, sends(2, 3, 30, 5, 2, cargo()), 0},
		{"to one that is down", crashed(3), sends(2, 3, 30, 5, 2, cargo()), 0},
		{"most shares", nothing, sends(3, 0, 30, 64, 2, cargo()), 1},
		{"the last time", nothing, sends(0, 1, 1000000, 1, 1, cargo()), 0},
		{"the longest", nothing, sends(0, 1, 8, 1, 15, bytes(360)), 0},
		{"the longest block", nothing, sends(0, 1, 8, 1, 16, bytes(1)), 0},
		{"most blocks", nothing, sends(0, 1, 8, 1, 1, bytes(24)), 0},
		{"the last number", sendsAll(49), sends(0, 1, 1000, 1, 1, cargo()), 49},
		{"the last bundle", crowds(11), sends(0, 1, 20, 1, 1, cargo()), 0},
		{"the last record", ticksOn(199), sends(0, 1, 1000, 1, 1, cargo()), 0},
	} {
		l = append(l, step{c.name, c.start, c.x, api.OK, wrote(c.x.Node, sendRec(c.x, c.seq))})
	}
	for _, c := range []struct {
		name  string
		start change
		x     api.Happening
		want  api.Errno
	}{
		{"to itself", nothing, sends(0, 0, 8, 1, 1, cargo()), api.ErrWho},
		{"too late", nothing, sends(0, 1, 7, 1, 1, cargo()), api.ErrLate},
		{"at no time", nothing, sends(0, 1, 0, 1, 1, cargo()), api.ErrRange},
		{"behind all times", nothing, sends(0, 1, 1000001, 1, 1, cargo()), api.ErrRange},
		{"no shares", nothing, sends(0, 1, 8, 0, 1, cargo()), api.ErrRange},
		{"shares below 0", nothing, sends(0, 1, 8, -1, 1, cargo()), api.ErrRange},
		{"too many shares", nothing, sends(0, 1, 8, 65, 1, cargo()), api.ErrRange},
		{"far too many shares", nothing, sends(0, 1, 8, math.MaxInt, 1, cargo()), api.ErrRange},
		{"nothing", nothing, sends(0, 1, 8, 1, 1, nil), api.ErrRange},
		{"an empty list", nothing, sends(0, 1, 8, 1, 1, []byte{}), api.ErrRange},
		{"too long", nothing, sends(0, 1, 8, 1, 16, bytes(361)), api.ErrRange},
		{"far too long", nothing, sends(0, 1, 8, 1, 16, bytes(100000)), api.ErrRange},
		{"no block", nothing, sends(0, 1, 8, 1, 0, cargo()), api.ErrRange},
		{"a block below 0", nothing, sends(0, 1, 8, 1, math.MinInt, cargo()), api.ErrRange},
		{"too long a block", nothing, sends(0, 1, 8, 1, 17, cargo()), api.ErrRange},
		{"too many blocks", nothing, sends(0, 1, 8, 1, 1, bytes(25)), api.ErrMany},
		{"no number is left", sendsAll(50), sends(0, 1, 1000, 1, 1, cargo()), api.ErrRange},
		{"a bundle too many", crowds(12), sends(0, 1, 20, 1, 1, cargo()), api.ErrMany},
		{"a record too many", ticksOn(200), sends(0, 1, 1000, 1, 1, cargo()), api.ErrMany},
		{"to itself, too late", nothing, sends(0, 0, 7, 1, 1, cargo()), api.ErrWho},
		{"to itself, too many blocks", nothing, sends(0, 0, 8, 1, 1, bytes(25)), api.ErrWho},
		{"too many blocks, too late", nothing, sends(0, 1, 7, 1, 1, bytes(25)), api.ErrMany},
		{"too late, too many shares", nothing, sends(0, 1, 7, 65, 1, cargo()), api.ErrLate},
		{"too many shares, a bundle too many", crowds(12), sends(0, 1, 20, 65, 1, cargo()), api.ErrRange},
		{"too late, a record too many", ticksOn(200), sends(0, 1, 10, 1, 1, cargo()), api.ErrLate},
	} {
		l = append(l, step{c.name, c.start, c.x, c.want, nil})
	}
	runSteps(t, l)
}

// ticksOn: node 0 has as many records then.
func ticksOn(n int) change {
	return func(s *state) {
		s.logs[0] = nil
		ticks(0, n)(s)
	}
}

func of(kind, node, to, seq, n int) api.Happening {
	return api.Happening{Kind: kind, Node: node, To: to, From: 1, Seq: seq, N: n}
}

func tickRec(n int) api.Rec { return api.Rec{Kind: api.RTick, N: n} }

// P11.2: the clock goes on by N, so that bundles go.
func TestTick(t *testing.T) {
	runSteps(t, []step{
		{"by one", nothing, of(api.HTick, 0, 0, 0, 1), api.OK, wrote(0, tickRec(8))},
		{"as far as may be", nothing, of(api.HTick, 0, 3, 0, 999993), api.OK, wrote(0, tickRec(1000000))},
		{"from the begin on", nothing, of(api.HTick, 1, 0, 0, 1000000), api.OK, wrote(1, tickRec(1000000))},
		{"one time ahead of one bundle's", nothing, of(api.HTick, 1, 0, 0, 49), api.OK, wrote(1, tickRec(49))},
		{"a bundle goes", nothing, of(api.HTick, 1, 0, 0, 50), api.OK, wrote(1, tickRec(50))},
		{"the last record", ticksOn(199), of(api.HTick, 0, 0, 0, 1), api.OK, wrote(0, tickRec(200))},
		{"by nothing", nothing, of(api.HTick, 0, 0, 0, 0), api.ErrRange, nil},
		{"back", nothing, of(api.HTick, 0, 0, 0, -1), api.ErrRange, nil},
		{"back far", nothing, of(api.HTick, 0, 0, 0, math.MinInt), api.ErrRange, nil},
		{"one too far", nothing, of(api.HTick, 0, 0, 0, 999994), api.ErrRange, nil},
		{"far too far", nothing, of(api.HTick, 0, 0, 0, math.MaxInt), api.ErrRange, nil},
		{"at the end of time", wrote(0, tickRec(1000000)), of(api.HTick, 0, 0, 0, 1), api.ErrRange, nil},
		{"a record too many", ticksOn(200), of(api.HTick, 0, 0, 0, 1), api.ErrMany, nil},
		{"too far, a record too many", ticksOn(200), of(api.HTick, 0, 0, 0, 1000000), api.ErrRange, nil},
	})
}

// P11.2: what a node tells of a bundle is of one that it has.
func TestWhose(t *testing.T) {
	var l []step
	for _, kind := range []int{api.HMeet, api.HGive, api.HAgain, api.HTell} {
		for _, c := range [][3]int{{0, 1, 0}, {1, 1, 3}, {1, 3, 0}, {1, 0, 0}, {2, 1, 1}, {3, 1, 1}, {1, -1, 0}, {1, 1, -1}, {1, math.MaxInt, math.MinInt}} {
			x := api.Happening{Kind: kind, Node: c[0], To: 3, From: c[1], Seq: c[2], N: -1}
			l = append(l, step{"not there", nothing, x, api.ErrWho, nil})
		}
		l = append(l, step{"not there any more", wrote(1, tickRec(50)), of(kind, 1, 3, 0, 0), api.ErrWho, nil})
	}
	runSteps(t, l)
}

func madeOf(t *testing.T, h api.Head, id int) api.Symbol {
	s, e := code.Make(h.P, cargo(), id)
	if e != api.OK {
		t.Fatal(id, e)
	}
	return s
}

func symbolMail(from, to int, h api.Head, s api.Symbol) api.Mail {
	return api.Mail{From: from, To: to, F: api.Frame{Kind: api.FSymbol, H: h, S: s}}
}

// noShares: node 3 has a symbol of a bundle, and no shares.
func noShares(s *state) {
	s.logs[3] = append(s.logs[3], api.Rec{Kind: api.RKeep, H: single, S: symbol(7, 4, 2)})
}

// P11.2: a symbol goes to whom the bundle is for, or where there are shares.
func TestMeet(t *testing.T) {
	l := []step{
		{"one that it has", nothing, of(api.HMeet, 3, 2, 0, 7), api.OK, sent(symbolMail(3, 2, passed, symbol(7, 4, 2)))},
		{"on its way", nothing, of(api.HMeet, 3, 0, 0, 7), api.OK, sent(symbolMail(3, 0, passed, symbol(7, 4, 2)))},
		{"back", nothing, of(api.HMeet, 3, 1, 0, 7), api.OK, sent(symbolMail(3, 1, passed, symbol(7, 4, 2)))},
		{"to itself", nothing, of(api.HMeet, 3, 3, 0, 7), api.OK, sent(symbolMail(3, 3, passed, symbol(7, 4, 2)))},
		{"to one that is down", crashed(2), of(api.HMeet, 3, 2, 0, 7), api.OK, sent(symbolMail(3, 2, passed, symbol(7, 4, 2)))},
		{"without shares, to whom it is for", noShares, of(api.HMeet, 3, 0, 1, 7), api.OK, sent(symbolMail(3, 0, single, symbol(7, 4, 2)))},
		{"of whom it is for, to itself", nothing, of(api.HMeet, 2, 2, 0, 7), api.OK, sent(symbolMail(2, 2, passed, symbol(7, 4, 2)))},
		{"with one share", nothing, of(api.HMeet, 1, 3, 1, 1), api.OK, sent(symbolMail(1, 3, single, symbol(1, 3, 4)))},
		{"there is no room", fullMail, of(api.HMeet, 3, 2, 0, 7), api.OK, nothing},
		{"the log is full", filled(3, 200), of(api.HMeet, 3, 2, 0, 7), api.OK, sent(symbolMail(3, 2, passed, symbol(7, 4, 2)))},
		{"delivered", nothing, api.Happening{Kind: api.HMeet, Node: 2, To: 1, From: 3}, api.ErrLate, nil},
		{"delivered, to whom it is for", nothing, api.Happening{Kind: api.HMeet, Node: 2, To: 2, From: 3}, api.ErrLate, nil},
		{"purged", nothing, of(api.HMeet, 1, 0, 2, 0), api.ErrLate, nil},
		{"purged, to whom it is for", nothing, of(api.HMeet, 1, 3, 2, 0), api.ErrLate, nil},
		{"no shares", noShares, of(api.HMeet, 3, 2, 1, 7), api.ErrShort, nil},
		{"no shares, to its sender", noShares, of(api.HMeet, 3, 1, 1, 7), api.ErrShort, nil},
		{"no shares, and no such symbol", noShares, of(api.HMeet, 3, 2, 1, 8), api.ErrShort, nil},
		{"of whom it is for, without shares", nothing, of(api.HMeet, 2, 3, 0, 7), api.ErrShort, nil},
		{"no such symbol", nothing, of(api.HMeet, 3, 2, 0, 0), api.ErrWho, nil},
		{"no symbol could be so", nothing, of(api.HMeet, 3, 2, 0, -1), api.ErrWho, nil},
		{"no symbol at all", wrote(0, api.Rec{Kind: api.RTake, Place: 3, N: 2, Try: 1, H: passed}), of(api.HMeet, 0, 2, 0, 7), api.ErrWho, nil},
		{"own, below all numbers", nothing, of(api.HMeet, 1, 2, 0, -1), api.ErrRange, nil},
		{"own, above all numbers", nothing, of(api.HMeet, 1, 2, 0, 10000), api.ErrRange, nil},
		{"own, far above", nothing, of(api.HMeet, 1, 3, 0, math.MaxInt), api.ErrRange, nil},
	}
	for _, id := range []int{0, 1, 2, 3, 7, 5000, 9999} {
		l = append(l, step{"own", nothing, of(api.HMeet, 1, 2, 0, id), api.OK, sent(symbolMail(1, 2, passed, madeOf(t, passed, id)))})
		l = append(l, step{"own, on its way", nothing, of(api.HMeet, 1, 0, 0, id), api.OK, sent(symbolMail(1, 0, passed, madeOf(t, passed, id)))})
	}
	runSteps(t, l)
}

func giveRec(h api.Head, to, n, try int) api.Rec {
	return api.Rec{Kind: api.RGive, Place: to, N: n, Try: try, H: h}
}

func shareMail(from, to int, h api.Head, n, try int) api.Mail {
	return api.Mail{From: from, To: to, F: api.Frame{Kind: api.FShare, H: h, N: n, Try: try}}
}

// given: what node 3 gives was taken, and it has so many tries behind it.
func given(tries int) change {
	return func(s *state) {
		for try := 1; try <= tries; try++ {
			if try > 1 {
				s.logs[3] = append(s.logs[3], api.Rec{Kind: api.RTake, Place: 1, N: 2, Try: try + 1, H: passed}, giveRec(passed, 0, 2, try))
			}
			s.logs[3] = append(s.logs[3], api.Rec{Kind: api.RGiven, Try: try, H: passed})
		}
	}
}

// P11.2: half of the shares go to another node, written down ahead.
func TestGive(t *testing.T) {
	oneMore := wrote(1, api.Rec{Kind: api.RTake, Place: 3, N: 1, Try: 5, H: single})
	runSteps(t, []step{
		{"half of nine", nothing, of(api.HGive, 1, 3, 0, 0), api.OK, all(wrote(1, giveRec(passed, 3, 4, 1)), sent(shareMail(1, 3, passed, 4, 1)))},
		{"to whom it is for", nothing, of(api.HGive, 1, 2, 0, 77), api.OK, all(wrote(1, giveRec(passed, 2, 4, 1)), sent(shareMail(1, 2, passed, 4, 1)))},
		{"to one that is down", crashed(3), of(api.HGive, 1, 3, 0, 0), api.OK, all(wrote(1, giveRec(passed, 3, 4, 1)), sent(shareMail(1, 3, passed, 4, 1)))},
		{"half of three, by the next try", given(1), of(api.HGive, 3, 0, 0, 0), api.OK, all(wrote(3, giveRec(passed, 0, 1, 2)), sent(shareMail(3, 0, passed, 1, 2)))},
		{"by the third try", given(2), of(api.HGive, 3, 1, 0, 0), api.OK, all(wrote(3, giveRec(passed, 1, 1, 3)), sent(shareMail(3, 1, passed, 1, 3)))},
		{"there is no room", fullMail, of(api.HGive, 1, 3, 0, 0), api.OK, wrote(1, giveRec(passed, 3, 4, 1))},
		{"half of two", oneMore, of(api.HGive, 1, 3, 1, 0), api.OK, all(wrote(1, giveRec(single, 3, 1, 1)), sent(shareMail(1, 3, single, 1, 1)))},
		{"to itself", nothing, of(api.HGive, 1, 1, 0, 0), api.ErrWho, nil},
		{"it is giving", nothing, of(api.HGive, 3, 0, 0, 0), api.ErrLate, nil},
		{"it is giving, to itself", nothing, of(api.HGive, 3, 3, 0, 0), api.ErrWho, nil},
		{"one share", nothing, of(api.HGive, 1, 3, 1, 0), api.ErrRange, nil},
		{"no shares", nothing, of(api.HGive, 2, 3, 0, 0), api.ErrRange, nil},
		{"purged", nothing, of(api.HGive, 1, 0, 2, 0), api.ErrLate, nil},
		{"purged, to itself", nothing, of(api.HGive, 1, 1, 2, 0), api.ErrLate, nil},
		{"delivered", nothing, api.Happening{Kind: api.HGive, Node: 2, To: 1, From: 3}, api.ErrLate, nil},
		{"the log is full", filled(1, 200), of(api.HGive, 1, 3, 0, 0), api.ErrMany, nil},
		{"the last record", filled(1, 199), of(api.HGive, 1, 3, 0, 0), api.OK, all(wrote(1, giveRec(passed, 3, 4, 1)), sent(shareMail(1, 3, passed, 4, 1)))},
	})
}

// P11.2: what is given goes again, by the same try, to the same node.
func TestAgain(t *testing.T) {
	runSteps(t, []step{
		{"again", nothing, of(api.HAgain, 3, 1, 0, 77), api.OK, sent(shareMail(3, 0, passed, 2, 1))},
		{"again, the node itself is told", nothing, of(api.HAgain, 3, 3, 0, 0), api.OK, sent(shareMail(3, 0, passed, 2, 1))},
		{"by a later try", all(given(2), wrote(3, giveRec(passed, 1, 1, 3))), of(api.HAgain, 3, 0, 0, 0), api.OK, sent(shareMail(3, 1, passed, 1, 3))},
		{"of what is its own", wrote(1, giveRec(passed, 2, 4, 1)), of(api.HAgain, 1, 0, 0, 0), api.OK, sent(shareMail(1, 2, passed, 4, 1))},
		{"to one that is down", crashed(0), of(api.HAgain, 3, 0, 0, 0), api.OK, sent(shareMail(3, 0, passed, 2, 1))},
		{"there is no room", fullMail, of(api.HAgain, 3, 0, 0, 0), api.OK, nothing},
		{"the log is full", filled(3, 200), of(api.HAgain, 3, 0, 0, 0), api.OK, sent(shareMail(3, 0, passed, 2, 1))},
		{"it was taken", given(1), of(api.HAgain, 3, 0, 0, 0), api.ErrLate, nil},
		{"nothing was given", nothing, of(api.HAgain, 1, 0, 0, 0), api.ErrLate, nil},
		{"purged", wrote(3, api.Rec{Kind: api.RPurge, H: passed}), of(api.HAgain, 3, 0, 0, 0), api.ErrLate, nil},
		{"delivered", nothing, api.Happening{Kind: api.HAgain, Node: 2, To: 1, From: 3}, api.ErrLate, nil},
	})
}

func receipt(from, to int, h api.Head) api.Mail {
	return api.Mail{From: from, To: to, F: api.Frame{Kind: api.FReceipt, H: h}}
}

// P11.2: who knows that a bundle was delivered tells it to any node.
func TestTell(t *testing.T) {
	runSteps(t, []step{
		{"delivered", nothing, api.Happening{Kind: api.HTell, Node: 2, To: 3, From: 3, N: 77}, api.OK, sent(receipt(2, 3, done))},
		{"delivered, to another one", nothing, api.Happening{Kind: api.HTell, Node: 2, To: 0, From: 3}, api.OK, sent(receipt(2, 0, done))},
		{"purged", nothing, of(api.HTell, 1, 0, 2, 0), api.OK, sent(receipt(1, 0, purged))},
		{"to itself", nothing, of(api.HTell, 1, 1, 2, 0), api.OK, sent(receipt(1, 1, purged))},
		{"to one that is down", crashed(0), of(api.HTell, 1, 0, 2, 0), api.OK, sent(receipt(1, 0, purged))},
		{"there is no room", fullMail, of(api.HTell, 1, 0, 2, 0), api.OK, nothing},
		{"the log is full", filled(1, 200), of(api.HTell, 1, 0, 2, 0), api.OK, sent(receipt(1, 0, purged))},
		{"neither", nothing, of(api.HTell, 1, 0, 0, 0), api.ErrLate, nil},
		{"not delivered yet", nothing, of(api.HTell, 2, 0, 0, 0), api.ErrLate, nil},
		{"giving", nothing, of(api.HTell, 3, 0, 0, 0), api.ErrLate, nil},
	})
}

// P11.2: who crashes knows nothing, and has what was written down.
func TestCrash(t *testing.T) {
	var l []step
	for k := range 4 {
		x := api.Happening{Kind: api.HCrash, Node: k, To: 3 - k, N: -1, From: -1}
		l = append(l, step{"it is down", nothing, x, api.OK, crashed(k)})
		l = append(l, step{"others are down, too", all(crashed((k+1)%4), crashed((k+2)%4)), x, api.OK, crashed(k)})
	}
	runSteps(t, l)
}

// up: the node knows this again, and nothing waits.
func up(k int, l ...api.Rec) change {
	return all(wrote(k, l...), waits(k, ""), func(s *state) { s.down[k] = false })
}

// P11.2: who boots knows what was written down, as far as whole records of it are there.
func TestBoot(t *testing.T) {
	const tick9 = "8 0 9 0 0 0 0 0 0 0 0 - -\n"
	boots := func(k int) api.Happening { return api.Happening{Kind: api.HBoot, Node: k, N: -1, From: -1} }
	var l []step
	for k := range 4 {
		l = append(l, step{"up again", crashed(k), boots(k), api.OK, up(k)})
	}
	l = append(l, []step{
		{"a record waited", all(crashed(0), waits(0, tick9)), boots(0), api.OK, up(0, tickRec(9))},
		{"some bytes behind a record", all(crashed(0), waits(0, tick9+"8 0 ")), boots(0), api.OK, up(0, tickRec(9))},
		{"a line without its end", all(crashed(0), waits(0, tick9[:25])), boots(0), api.OK, up(0)},
		{"no record", all(crashed(0), waits(0, "x\n"+tick9)), boots(0), api.OK, up(0)},
		{"any bytes", all(crashed(1), waits(1, "\x00\xff\n\n")), boots(1), api.OK, up(1)},
		{"what was known ahead of the crash", all(crashed(1), waits(1, "7 0 0 0 1 0 2 50 5 2 0 - -\n")), boots(1), api.OK, up(1, api.Rec{Kind: api.RPurge, H: passed})},
		{"as many as may be", all(ticksOn(199), crashed(0), waits(0, "8 0 900 0 0 0 0 0 0 0 0 - -\n8 0 5 0 0 0 0 0 0 0 0 - -\n")), boots(0), api.OK, up(0, tickRec(900))},
		{"what is too late is left out", all(ticksOn(200), crashed(0), waits(0, tick9)), boots(0), api.OK, up(0)},
		{"the clock stood still", all(crashed(0), waits(0, "8 0 7 0 0 0 0 0 0 0 0 - -\n")), boots(0), api.ErrLate, nil},
		{"the clock stood still, later on", all(crashed(0), waits(0, tick9+tick9)), boots(0), api.ErrLate, nil},
		{"another one's bundle was sent", all(crashed(0), waits(0, "1 0 4 0 1 0 2 50 1 1 0 - -07\n"+tick9)), boots(0), api.ErrWho, nil},
		{"what was given isn't there", all(crashed(0), waits(0, "4 3 4 1 1 0 2 50 1 1 0 - -\n")), boots(0), api.ErrWho, nil},
		{"another bundle by its number", all(crashed(1), waits(1, "7 0 0 0 1 0 2 51 5 2 0 - -\n")), boots(1), api.ErrForm, nil},
		{"not enough to know", all(crashed(2), waits(2, "3 0 0 0 1 0 2 50 5 2 0 - -0102030405\n")), boots(2), api.ErrShort, nil},
	}...)
	runSteps(t, l)
	// A log that can't be is safe.
	w := sample().world(t)
	w.Nodes[3] = api.Node{P: api.Place{Me: 3}, D: api.Disk{Safe: []byte(odd)}}
	if x, e := Do(w, boots(3)); e != api.ErrLate || !isZero(x) {
		t.Errorf("a log that can't be: %+v, %d, want ErrLate", x, e)
	}
}
