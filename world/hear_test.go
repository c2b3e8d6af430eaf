package world

import (
	"math"
	"testing"

	"bottlepost/api"
)

func coming(kind, n int) api.Happening {
	// Node, To and all else are of no use.
	return api.Happening{Kind: kind, N: n, Node: 9, To: -9, From: -1, Seq: -1, Shares: -1, Block: -1}
}

// P11.2: what isn't on its way can't come, nor be lost.
func TestNoMail(t *testing.T) {
	var l []step
	for _, kind := range []int{api.HHear, api.HTwice, api.HLose} {
		for _, n := range []int{-1, 4, 5, math.MinInt, math.MaxInt} {
			for _, start := range []change{nothing, all(crashed(0), crashed(1), crashed(2), crashed(3))} {
				l = append(l, step{"no such mail", start, coming(kind, n), api.ErrWho, nil})
			}
		}
		l = append(l, step{"no mail", onWay(), coming(kind, 0), api.ErrWho, nil})
	}
	runSteps(t, l)
}

// P11.2: of each kind of mail, wherever it stands: it is heard once, or more often, or never.
func TestComing(t *testing.T) {
	heard := []change{
		atSymbol:  wrote(2, keepRec(passed, symbol(1, 3, 4)), deliverRec(passed, cargo())),
		atShare:   all(wrote(0, takeRec(passed, 3, 2, 1)), sent(gotMail(0, 3, passed, 2, 1))),
		atGot:     wrote(3, givenRec(passed, 1)),
		atReceipt: wrote(1, purgeRec(passed)),
	}
	for k, m := range sample().mail {
		down := crashed(m.To)
		others := all(crashed((m.To+1)%4), crashed((m.To+2)%4), crashed((m.To+3)%4))
		runSteps(t, []step{
			{"it is heard", nothing, coming(api.HHear, k), api.OK, all(gone(k), heard[k])},
			{"it is heard, and on its way", nothing, coming(api.HTwice, k), api.OK, heard[k]},
			{"it is lost", nothing, coming(api.HLose, k), api.OK, gone(k)},
			{"all others are down", others, coming(api.HHear, k), api.OK, all(gone(k), heard[k])},
			{"it is lost to one that is down", down, coming(api.HLose, k), api.OK, gone(k)},
			{"to one that is down", down, coming(api.HHear, k), api.ErrLate, nil},
			{"to one that is down, twice", down, coming(api.HTwice, k), api.ErrLate, nil},
		})
	}
}

func keepRec(h api.Head, s api.Symbol) api.Rec { return api.Rec{Kind: api.RKeep, H: h, S: s} }

func deliverRec(h api.Head, cargo []byte) api.Rec {
	return api.Rec{Kind: api.RDeliver, H: h, Cargo: cargo}
}

func takeRec(h api.Head, place, n, try int) api.Rec {
	return api.Rec{Kind: api.RTake, Place: place, N: n, Try: try, H: h}
}

func givenRec(h api.Head, try int) api.Rec { return api.Rec{Kind: api.RGiven, Try: try, H: h} }

func purgeRec(h api.Head) api.Rec { return api.Rec{Kind: api.RPurge, H: h} }

func gotMail(from, to int, h api.Head, n, try int) api.Mail {
	return api.Mail{From: from, To: to, F: api.Frame{Kind: api.FGot, H: h, N: n, Try: try}}
}

// hearing: what is made of a mail, ahead of and behind which others are on their way.
type hearing struct {
	name  string
	start change
	m     api.Mail
	after change
}

func runHearings(t *testing.T, l []hearing) {
	t.Helper()
	a, b := receipt(0, 3, none), receipt(3, 0, none)
	for _, c := range l {
		start := all(c.start, onWay(a, c.m, b))
		runSteps(t, []step{
			{c.name, start, coming(api.HHear, 1), api.OK, all(gone(1), c.after)},
			{c.name + ", twice", start, coming(api.HTwice, 1), api.OK, c.after},
			{c.name + ", lost", start, coming(api.HLose, 1), api.OK, gone(1)},
		})
	}
}

func butTill(h api.Head, n int) api.Head {
	h.Till = n
	return h
}

// later: the clock of node k is at n.
func later(k, n int) change { return wrote(k, tickRec(n)) }

// P11.2: a symbol is kept; if it is enough then, and for this node, the cargo is delivered.
func TestHearSymbol(t *testing.T) {
	short := api.Head{From: 1, Seq: 5, To: 0, Till: 50, P: api.Plan{Bytes: 2, Block: 2}}
	all3 := wrote(2, keepRec(passed, symbol(1, 3, 4)))
	runHearings(t, []hearing{
		{"it is enough", nothing, symbolMail(1, 2, passed, symbol(1, 3, 4)), wrote(2, keepRec(passed, symbol(1, 3, 4)), deliverRec(passed, cargo()))},
		{"from any node", nothing, symbolMail(0, 2, passed, symbol(1, 3, 4)), wrote(2, keepRec(passed, symbol(1, 3, 4)), deliverRec(passed, cargo()))},
		{"it says nothing new", nothing, symbolMail(3, 2, passed, symbol(2, 5, 0)), wrote(2, keepRec(passed, symbol(2, 5, 0)))},
		{"the first one is enough", nothing, symbolMail(1, 0, short, symbol(7, 8, 9)), wrote(0, keepRec(short, symbol(7, 8, 9)), deliverRec(short, []byte{8, 9}))},
		{"enough, for another node", wrote(3, keepRec(passed, symbol(0, 1, 2))), symbolMail(1, 3, passed, symbol(1, 3, 4)), wrote(3, keepRec(passed, symbol(1, 3, 4)))},
		{"the first one, for another node", nothing, symbolMail(1, 3, short, symbol(7, 8, 9)), wrote(3, keepRec(short, symbol(7, 8, 9)))},
		{"of a bundle that comes", nothing, symbolMail(3, 0, passed, symbol(7, 4, 2)), wrote(0, keepRec(passed, symbol(7, 4, 2)))},
		{"it was there", nothing, symbolMail(1, 2, passed, symbol(7, 4, 2)), nothing},
		{"it was there with other data", nothing, symbolMail(1, 2, passed, symbol(7, 0, 0)), nothing},
		{"there were enough, and it was there", all3, symbolMail(1, 2, passed, symbol(7, 4, 2)), nothing},
		{"there were enough, and it wasn't there", all3, symbolMail(1, 2, passed, symbol(2, 5, 0)), wrote(2, keepRec(passed, symbol(2, 5, 0)), deliverRec(passed, cargo()))},
		{"it belongs to another cargo", all3, symbolMail(1, 2, passed, symbol(2, 5, 1)), wrote(2, keepRec(passed, symbol(2, 5, 1)))},
		{"no cargo can be so", wrote(2, keepRec(butSeq(passed, 7), symbol(0, 1, 2)), keepRec(butSeq(passed, 7), symbol(1, 3, 4))), symbolMail(1, 2, butSeq(passed, 7), symbol(2, 5, 6)), wrote(2, keepRec(butSeq(passed, 7), symbol(2, 5, 6)))},
		{"of what is its own", nothing, symbolMail(2, 1, passed, symbol(1, 3, 4)), nothing},
		{"of what it never sent", nothing, symbolMail(2, 1, butSeq(passed, 7), symbol(1, 3, 4)), nothing},
		{"delivered", nothing, symbolMail(3, 2, done, symbol(1, 9)), nothing},
		{"purged", wrote(3, purgeRec(passed)), symbolMail(1, 3, passed, symbol(1, 3, 4)), nothing},
		{"the last moment", later(2, 49), symbolMail(1, 2, passed, symbol(1, 3, 4)), wrote(2, keepRec(passed, symbol(1, 3, 4)), deliverRec(passed, cargo()))},
		{"too late", later(2, 50), symbolMail(1, 2, passed, symbol(1, 3, 4)), nothing},
		{"too late for what is enough", later(0, 50), symbolMail(1, 0, short, symbol(7, 8, 9)), nothing},
		{"of another head", nothing, symbolMail(1, 2, butTill(passed, 51), symbol(1, 3, 4)), nothing},
		{"no room for a bundle", crowds(12), symbolMail(1, 0, short, symbol(7, 8, 9)), nothing},
		{"room for one record", filled(2, 199), symbolMail(1, 2, passed, symbol(1, 3, 4)), wrote(2, keepRec(passed, symbol(1, 3, 4)))},
		{"room for two records", filled(2, 198), symbolMail(1, 2, passed, symbol(1, 3, 4)), wrote(2, keepRec(passed, symbol(1, 3, 4)), deliverRec(passed, cargo()))},
		{"no room for a record", filled(2, 200), symbolMail(1, 2, passed, symbol(1, 3, 4)), nothing},
	})
}

func butSeq(h api.Head, n int) api.Head {
	h.Seq = n
	return h
}

// P11.2: shares are taken once; that they were is said each time.
func TestHearShare(t *testing.T) {
	took := wrote(0, takeRec(passed, 3, 2, 1))
	tookAndPurged := all(took, wrote(0, purgeRec(passed)))
	got := func(n, try int) change { return sent(gotMail(0, 3, passed, n, try)) }
	share := shareMail(3, 0, passed, 2, 1)
	runHearings(t, []hearing{
		{"of a bundle that comes", nothing, share, all(wrote(0, takeRec(passed, 3, 2, 1)), got(2, 1))},
		{"of a bundle that is there", wrote(0, keepRec(passed, symbol(7, 4, 2))), share, all(wrote(0, takeRec(passed, 3, 2, 1)), got(2, 1))},
		{"to its sender", nothing, shareMail(3, 1, passed, 2, 1), all(wrote(1, takeRec(passed, 3, 2, 1)), sent(gotMail(1, 3, passed, 2, 1)))},
		{"to whom it is for", nothing, shareMail(3, 2, passed, 64, 9999), all(wrote(2, takeRec(passed, 3, 64, 9999)), sent(gotMail(2, 3, passed, 64, 9999)))},
		{"from a node to itself", nothing, shareMail(0, 0, passed, 2, 1), all(wrote(0, takeRec(passed, 0, 2, 1)), sent(gotMail(0, 0, passed, 2, 1)))},
		{"from one that is down", crashed(3), share, all(wrote(0, takeRec(passed, 3, 2, 1)), got(2, 1))},
		{"again", took, share, got(2, 1)},
		{"again, of another count", took, shareMail(3, 0, passed, 5, 1), got(5, 1)},
		{"again, from one that is down", all(took, crashed(3)), share, got(2, 1)},
		{"by another try", took, shareMail(3, 0, passed, 2, 2), all(wrote(0, takeRec(passed, 3, 2, 2)), got(2, 2))},
		{"from another node", took, shareMail(2, 0, passed, 2, 1), all(wrote(0, takeRec(passed, 2, 2, 1)), sent(gotMail(0, 2, passed, 2, 1)))},
		{"again, of another head", took, shareMail(3, 0, butTill(passed, 51), 2, 1), nothing},
		{"again, of another number", took, shareMail(3, 0, butSeq(passed, 7), 2, 1), all(wrote(0, takeRec(butSeq(passed, 7), 3, 2, 1)), sent(gotMail(0, 3, butSeq(passed, 7), 2, 1)))},
		{"again, purged", tookAndPurged, share, got(2, 1)},
		{"purged", tookAndPurged, shareMail(3, 0, passed, 2, 2), nothing},
		{"delivered", nothing, shareMail(3, 2, done, 2, 2), nothing},
		{"just as many as may be", took, shareMail(3, 0, passed, 62, 2), all(wrote(0, takeRec(passed, 3, 62, 2)), got(62, 2))},
		{"too many", took, shareMail(3, 0, passed, 63, 2), nothing},
		{"too late", later(0, 50), share, nothing},
		{"again, too late", all(took, later(0, 50)), share, nothing},
		{"of what it never sent", nothing, shareMail(3, 1, butSeq(passed, 7), 2, 1), nothing},
		{"no room for a bundle", crowds(12), share, nothing},
		{"no room for a record", filled(0, 200), share, nothing},
		{"again, no room for a record", all(took, filled(0, 200)), share, got(2, 1)},
		{"room for a record", filled(0, 199), share, all(wrote(0, takeRec(passed, 3, 2, 1)), got(2, 1))},
	})
	// Where as much is on its way as may be, the share's own room is for the answer, if it leaves that.
	runSteps(t, []step{
		{"heard, no room", fullMail, coming(api.HHear, 37), api.OK, all(gone(37), wrote(0, takeRec(passed, 3, 2, 1)), got(2, 1))},
		{"heard twice, no room", fullMail, coming(api.HTwice, 37), api.OK, wrote(0, takeRec(passed, 3, 2, 1))},
		{"heard again, twice, no room", all(took, fullMail), coming(api.HTwice, 37), api.OK, nothing},
	})
}

// P11.2: who is told that just these shares were taken gives them no more.
func TestHearGot(t *testing.T) {
	got := gotMail(0, 3, passed, 2, 1)
	runHearings(t, []hearing{
		{"taken", nothing, got, wrote(3, givenRec(passed, 1))},
		{"of another count", nothing, gotMail(0, 3, passed, 3, 1), nothing},
		{"from another node", nothing, gotMail(1, 3, passed, 2, 1), nothing},
		{"from itself", nothing, gotMail(3, 3, passed, 2, 1), nothing},
		{"of another try", nothing, gotMail(0, 3, passed, 2, 2), nothing},
		{"of another head", nothing, gotMail(0, 3, butTill(passed, 51), 2, 1), nothing},
		{"of another number", nothing, gotMail(0, 3, butSeq(passed, 1), 2, 1), nothing},
		{"to another node", nothing, gotMail(0, 1, passed, 2, 1), nothing},
		{"to one that hasn't the bundle", nothing, gotMail(1, 0, passed, 2, 1), nothing},
		{"taken already", wrote(3, givenRec(passed, 1)), got, nothing},
		{"of the try ahead", given(2), got, nothing},
		{"of the try ahead, the next one is given", all(wrote(3, givenRec(passed, 1), takeRec(passed, 1, 1, 3), giveRec(passed, 0, 2, 2))), got, nothing},
		{"of the next try", all(wrote(3, givenRec(passed, 1), takeRec(passed, 1, 1, 3), giveRec(passed, 0, 2, 2))), gotMail(0, 3, passed, 2, 2), wrote(3, givenRec(passed, 2))},
		{"purged", wrote(3, purgeRec(passed)), got, nothing},
		{"the last moment", later(3, 49), got, wrote(3, givenRec(passed, 1))},
		{"too late", later(3, 50), got, nothing},
		{"no room for a record", filled(3, 200), got, nothing},
		{"room for a record", filled(3, 199), got, wrote(3, givenRec(passed, 1))},
	})
}

// P11.2: who hears that a bundle was delivered needs it no more.
func TestHearReceipt(t *testing.T) {
	var l []hearing
	for _, from := range []int{0, 1, 2, 3} {
		l = append(l, hearing{"its sender", nothing, receipt(from, 1, passed), wrote(1, purgeRec(passed))})
		l = append(l, hearing{"who passes it on", nothing, receipt(from, 3, passed), wrote(3, purgeRec(passed))})
		l = append(l, hearing{"who has nothing of it", nothing, receipt(from, 0, passed), wrote(0, purgeRec(passed))})
	}
	runHearings(t, append(l, []hearing{
		{"whom it is for", nothing, receipt(1, 2, passed), wrote(2, purgeRec(passed))},
		{"purged", nothing, receipt(3, 1, purged), nothing},
		{"delivered", nothing, receipt(3, 2, done), nothing},
		{"who never sent it", nothing, receipt(3, 1, butSeq(passed, 7)), nothing},
		{"of another head", nothing, receipt(2, 1, butTill(passed, 51)), nothing},
		{"the last moment", later(1, 49), receipt(2, 1, passed), wrote(1, purgeRec(passed))},
		{"too late", later(1, 50), receipt(2, 1, passed), nothing},
		{"too late for who has nothing of it", later(0, 50), receipt(2, 0, passed), nothing},
		{"no room for a bundle", crowds(12), receipt(2, 0, passed), nothing},
		{"no room for a record", filled(1, 200), receipt(2, 1, passed), nothing},
		{"room for a record", filled(1, 199), receipt(2, 1, passed), wrote(1, purgeRec(passed))},
	}...))
}
