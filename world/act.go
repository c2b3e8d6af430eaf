package world

import (
	"slices"

	"bottlepost/api"
	"bottlepost/code"
)

// actor answers the node that does something, to be changed where it stands.
func actor(w *api.World, x api.Happening) (*api.Node, api.Errno) {
	isThere := func(k int) bool { return k >= 0 && k < len(w.Nodes) }
	if !isThere(x.Node) || !isThere(x.To) {
		return nil, api.ErrWho
	}
	n := &w.Nodes[x.Node]
	if n.Up == (x.Kind == api.HBoot) {
		return nil, api.ErrLate
	}
	return n, api.OK
}

// alone is what a node does without others, or by itself.
func alone(w *api.World, x api.Happening) api.Errno {
	n, e := actor(w, x)
	if e != api.OK {
		return e
	}
	switch x.Kind {
	case api.HSend:
		return send(n, x)
	case api.HTick:
		return tick(n, x.N)
	case api.HCrash:
		*n = api.Node{P: newPlace(x.Node), D: n.D}
		return api.OK
	}
	return boot(n, x.Node)
}

func send(n *api.Node, x api.Happening) api.Errno {
	h := api.Head{
		From: x.Node, Seq: n.P.Seq, To: x.To, Till: x.N,
		P: api.Plan{Bytes: len(x.Cargo), Block: x.Block},
	}
	return write(n, api.Rec{Kind: api.RSend, N: x.Shares, H: h, Cargo: x.Cargo})
}

func tick(n *api.Node, by int) api.Errno {
	if by < 1 || by > api.MaxTime-n.P.Time {
		return api.ErrRange
	}
	return write(n, api.Rec{Kind: api.RTick, N: n.P.Time + by})
}

func boot(n *api.Node, k int) api.Errno {
	up, e := booted(k, n.D)
	if e != api.OK {
		return e
	}
	*n = up
	return api.OK
}

// pass is what a node does to pass on something of a bundle that it has.
func pass(w *api.World, x api.Happening) api.Errno {
	n, e := actor(w, x)
	if e != api.OK {
		return e
	}
	k, ok := keptOf(n.P, x.From, x.Seq)
	if !ok {
		return api.ErrWho
	}
	switch x.Kind {
	case api.HMeet:
		return meet(w, x, k)
	case api.HGive:
		return give(w, x, k)
	case api.HAgain:
		return again(w, x, k)
	}
	return tell(w, x, k)
}

func meet(w *api.World, x api.Happening, k api.Kept) api.Errno {
	switch {
	case isDone(k):
		return api.ErrLate
	case x.To != k.H.To && k.Shares == 0:
		return api.ErrShort
	}
	s, e := symbolOf(k, x.N)
	if e != api.OK {
		return e
	}
	return post(w, x.Node, x.To, api.Frame{Kind: api.FSymbol, H: k.H, S: s})
}

// symbolOf answers the symbol of this number: of what was sent from here any one, else one that came.
func symbolOf(k api.Kept, id int) (api.Symbol, api.Errno) {
	if k.Own {
		return code.Make(k.H.P, k.Cargo, id)
	}
	at := slices.IndexFunc(k.Symbols, func(s api.Symbol) bool { return s.ID == id })
	if at < 0 {
		return api.Symbol{}, api.ErrWho
	}
	return k.Symbols[at], api.OK
}

func give(w *api.World, x api.Happening, k api.Kept) api.Errno {
	r := api.Rec{Kind: api.RGive, Place: x.To, N: k.Shares / 2, Try: k.Try + 1, H: k.H}
	if e := write(&w.Nodes[x.Node], r); e != api.OK {
		return e
	}
	return post(w, x.Node, x.To, api.Frame{Kind: api.FShare, H: k.H, N: r.N, Try: r.Try})
}

func again(w *api.World, x api.Happening, k api.Kept) api.Errno {
	if k.Giving == 0 {
		return api.ErrLate
	}
	return post(w, x.Node, k.Towards, api.Frame{Kind: api.FShare, H: k.H, N: k.Giving, Try: k.Try})
}

func tell(w *api.World, x api.Happening, k api.Kept) api.Errno {
	if !isDone(k) {
		return api.ErrLate
	}
	return post(w, x.Node, x.To, api.Frame{Kind: api.FReceipt, H: k.H})
}

// isDone says whether it is known here that the bundle was delivered.
func isDone(k api.Kept) bool {
	return k.Delivered || k.Purged
}
