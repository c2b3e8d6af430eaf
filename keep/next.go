package keep

import (
	"bytes"
	"slices"

	"bottlepost/api"
	"bottlepost/copies"
	"bottlepost/note"
	"bottlepost/solve"
)

// Next answers the place after what the record says; it refuses a record that can't be the next one.
func Next(p api.Place, r api.Rec) (api.Place, api.Errno) {
	if e := Check(p); e != api.OK {
		return api.Place{}, e
	}
	if e := note.Check(r); e != api.OK {
		return api.Place{}, e
	}
	// What is at work is a copy: where an error comes late, it is thrown away half done.
	q := copies.Place(p)
	if e := do(&q, r); e != api.OK {
		return api.Place{}, e
	}
	return q, api.OK
}

// do changes the place as the record says; with an error, it may be half done.
func do(p *api.Place, r api.Rec) api.Errno {
	switch r.Kind {
	case api.RSend:
		return send(p, r)
	case api.RTick:
		return tick(p, r.N)
	}
	k, e := bundleOf(p, r)
	if e != api.OK {
		return e
	}
	switch r.Kind {
	case api.RKeep:
		return keepSymbol(k, r.S)
	case api.RDeliver:
		return deliver(k, p.Me, r.Cargo)
	}
	if isDone(*k) {
		return api.ErrLate
	}
	switch r.Kind {
	case api.RGive:
		return give(k, p.Me, r)
	case api.RGiven:
		return given(k, r.Try)
	case api.RTake:
		return take(k, r)
	}
	k.Purged = true
	letGo(k)
	return api.OK
}

func send(p *api.Place, r api.Rec) api.Errno {
	switch {
	case r.H.From != p.Me:
		return api.ErrWho
	case r.H.Seq != p.Seq || r.H.Till <= p.Time:
		return api.ErrLate
	case !within(r.N, 1, api.MaxShares):
		return api.ErrRange
	case len(p.Keep) >= api.MaxKeep:
		return api.ErrMany
	}
	insert(p, api.Kept{H: r.H, Own: true, Cargo: slices.Clone(r.Cargo), Shares: r.N})
	p.Seq++
	return api.OK
}

func tick(p *api.Place, now int) api.Errno {
	if now <= p.Time {
		return api.ErrLate
	}
	p.Time = now
	p.Keep = slices.DeleteFunc(p.Keep, func(k api.Kept) bool { return k.H.Till <= now })
	return api.OK
}

// bundleOf answers the bundle that the record is of, to be changed where it stands; one that isn't there comes, if it may.
func bundleOf(p *api.Place, r api.Rec) (*api.Kept, api.Errno) {
	at := Find(*p, r.H.From, r.H.Seq)
	mustBeThere := r.Kind == api.RDeliver || r.Kind == api.RGive || r.Kind == api.RGiven
	switch {
	case at < 0 && mustBeThere:
		return nil, api.ErrWho
	case r.H.Till <= p.Time:
		return nil, api.ErrLate
	case at >= 0 && p.Keep[at].H != r.H:
		return nil, api.ErrForm
	case at >= 0:
		return &p.Keep[at], api.OK
	case r.H.From == p.Me:
		return nil, api.ErrWho
	case len(p.Keep) >= api.MaxKeep:
		return nil, api.ErrMany
	}
	return insert(p, api.Kept{H: r.H}), api.OK
}

// insert puts a bundle that isn't there in its place, and answers it where it stands.
func insert(p *api.Place, k api.Kept) *api.Kept {
	at := slices.IndexFunc(p.Keep, func(o api.Kept) bool { return standsAhead(k.H, o.H) })
	if at < 0 {
		at = len(p.Keep)
	}
	p.Keep = slices.Insert(p.Keep, at, k)
	return &p.Keep[at]
}

func keepSymbol(k *api.Kept, s api.Symbol) api.Errno {
	switch {
	case k.Own:
		return api.ErrWho
	case isDone(*k):
		return api.ErrLate
	case hasSymbol(k.Symbols, s.ID):
		return api.ErrTwice
	case len(k.Symbols) >= api.MaxSymbols:
		return api.ErrMany
	}
	k.Symbols = append(k.Symbols, copies.Symbol(s))
	return api.OK
}

func deliver(k *api.Kept, me int, cargo []byte) api.Errno {
	switch {
	case k.H.To != me:
		return api.ErrWho
	case isDone(*k):
		return api.ErrLate
	}
	known, e := solve.Decode(k.H.P, k.Symbols)
	if e != api.OK {
		return e
	}
	if !bytes.Equal(known, cargo) {
		return api.ErrTorn
	}
	k.Delivered = true
	letGo(k)
	return api.OK
}

// letGo takes away what a bundle would go on with. What it took stays, and so do its try and its own cargo.
func letGo(k *api.Kept) {
	k.Symbols, k.Shares, k.Giving, k.Towards = nil, 0, 0, 0
}

func give(k *api.Kept, me int, r api.Rec) api.Errno {
	switch {
	case r.Place == me:
		return api.ErrWho
	case k.Giving != 0 || r.Try != k.Try+1:
		return api.ErrLate
	case k.Shares < 2 || r.N != k.Shares/2:
		return api.ErrRange
	}
	k.Shares -= r.N
	k.Giving, k.Towards, k.Try = r.N, r.Place, r.Try
	return api.OK
}

func given(k *api.Kept, try int) api.Errno {
	if k.Giving == 0 || try != k.Try {
		return api.ErrLate
	}
	k.Giving, k.Towards = 0, 0
	return api.OK
}

func take(k *api.Kept, r api.Rec) api.Errno {
	t := api.Taken{Place: r.Place, Try: r.Try}
	switch {
	case r.Try == 0 || r.N == 0 || k.Shares+r.N > api.MaxShares:
		return api.ErrRange
	case slices.Contains(k.Took, t):
		return api.ErrTwice
	case len(k.Took) >= api.MaxTook:
		return api.ErrMany
	}
	k.Took = append(k.Took, t)
	k.Shares += r.N
	return api.OK
}
