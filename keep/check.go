package keep

import (
	"slices"

	"bottlepost/api"
	"bottlepost/code"
	"bottlepost/note"
)

// Check says whether a place can keep just this at that time.
func Check(p api.Place) api.Errno {
	switch {
	case !within(p.Me, 0, api.MaxPlaces-1),
		!within(p.Time, 0, api.MaxTime),
		!within(p.Seq, 0, api.MaxSeq):
		return api.ErrRange
	case len(p.Keep) > api.MaxKeep:
		return api.ErrMany
	}
	for i, k := range p.Keep {
		if e := checkKept(p, k); e != api.OK {
			return e
		}
		if i > 0 && !standsAhead(p.Keep[i-1].H, k.H) {
			return api.ErrTwice
		}
	}
	return api.OK
}

func within(n, least, most int) bool {
	return n >= least && n <= most
}

// checkKept says whether the place can keep this bundle; where it stands among the others isn't asked.
func checkKept(p api.Place, k api.Kept) api.Errno {
	if e := note.Head(k.H); e != api.OK {
		return e
	}
	switch {
	case k.H.Till <= p.Time:
		return api.ErrLate
	case !ownedRightly(p.Me, k):
		return api.ErrForm
	case len(k.Symbols) > api.MaxSymbols || len(k.Took) > api.MaxTook:
		return api.ErrMany
	}
	if e := checkSymbols(k); e != api.OK {
		return e
	}
	if e := checkShares(p.Me, k); e != api.OK {
		return e
	}
	if e := checkTook(k.Took); e != api.OK {
		return e
	}
	if !doneRightly(p.Me, k) || k.Own && k.H.Seq >= p.Seq {
		return api.ErrForm
	}
	return api.OK
}

// ownedRightly says whether what was sent from here, and nothing else, is kept as a whole cargo.
func ownedRightly(me int, k api.Kept) bool {
	if k.Own != (k.H.From == me) {
		return false
	}
	if k.Own {
		return len(k.Cargo) == k.H.P.Bytes && len(k.Symbols) == 0
	}
	return len(k.Cargo) == 0
}

func checkSymbols(k api.Kept) api.Errno {
	for i, s := range k.Symbols {
		if e := code.Check(k.H.P, s); e != api.OK {
			return e
		}
		if hasSymbol(k.Symbols[:i], s.ID) {
			return api.ErrTwice
		}
	}
	return api.OK
}

func checkShares(me int, k api.Kept) api.Errno {
	if !within(k.Shares, 0, api.MaxShares) || !within(k.Giving, 0, api.MaxShares) ||
		!within(k.Towards, 0, api.MaxPlaces-1) || !within(k.Try, 0, api.MaxID) {
		return api.ErrRange
	}
	// Try stays when nothing is given any more: the next one must be above it.
	if k.Giving == 0 && k.Towards != 0 || k.Giving != 0 && (k.Towards == me || k.Try == 0) {
		return api.ErrForm
	}
	return api.OK
}

func checkTook(l []api.Taken) api.Errno {
	for i, t := range l {
		if !within(t.Place, 0, api.MaxPlaces-1) || !within(t.Try, 1, api.MaxID) {
			return api.ErrRange
		}
		if slices.Contains(l[:i], t) {
			return api.ErrTwice
		}
	}
	return api.OK
}

// doneRightly says whether what is delivered may be, and what is delivered or purged has nothing left to go on with.
func doneRightly(me int, k api.Kept) bool {
	if k.Delivered && (k.H.To != me || k.Purged) {
		return false
	}
	return !isDone(k) || len(k.Symbols) == 0 && k.Shares == 0 && k.Giving == 0
}
