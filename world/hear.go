package world

import (
	"slices"

	"bottlepost/api"
	"bottlepost/keep"
	"bottlepost/solve"
	"bottlepost/way"
)

// arrive is what becomes of a mail: it is heard, and may be on its way still, or it is lost.
func arrive(w *api.World, x api.Happening) api.Errno {
	left, m, e := way.Take(w.Mail, x.N, x.Kind == api.HTwice)
	if e != api.OK {
		return e
	}
	w.Mail = left
	if x.Kind == api.HLose {
		return api.OK
	}
	if !w.Nodes[m.To].Up {
		return api.ErrLate
	}
	// What is wrong with a record isn't told: the frame has come, whatever the node makes of it.
	hear(w, m)
	return api.OK
}

// hear lets the node that is up do what the frame asks for, as far as it can; what stopped it is answered.
func hear(w *api.World, m api.Mail) api.Errno {
	n := &w.Nodes[m.To]
	switch m.F.Kind {
	case api.FSymbol:
		return hearSymbol(n, m)
	case api.FShare:
		return hearShare(w, m)
	case api.FGot:
		return hearGot(n, m)
	}
	return write(n, api.Rec{Kind: api.RPurge, H: m.F.H})
}

func hearSymbol(n *api.Node, m api.Mail) api.Errno {
	h := m.F.H
	if e := write(n, api.Rec{Kind: api.RKeep, H: h, S: m.F.S}); e != api.OK {
		return e
	}
	if h.To != m.To {
		return api.OK
	}
	k, _ := keptOf(n.P, h.From, h.Seq)
	cargo, e := solve.Decode(h.P, k.Symbols)
	if e != api.OK {
		return e
	}
	return write(n, api.Rec{Kind: api.RDeliver, H: h, Cargo: cargo})
}

// hearShare takes the shares just once, but says each time that they were taken: what said so ahead may be lost.
func hearShare(w *api.World, m api.Mail) api.Errno {
	n := &w.Nodes[m.To]
	if !hasTaken(n.P, m) {
		r := api.Rec{Kind: api.RTake, Place: m.From, N: m.F.N, Try: m.F.Try, H: m.F.H}
		if e := write(n, r); e != api.OK {
			return e
		}
	}
	got := m.F
	got.Kind = api.FGot
	return post(w, m.To, m.From, got)
}

// hasTaken says whether the place took the shares of this mail already.
func hasTaken(p api.Place, m api.Mail) bool {
	h := m.F.H
	k, ok := keptOf(p, h.From, h.Seq)
	return ok && k.H == h && slices.Contains(k.Took, api.Taken{Place: m.From, Try: m.F.Try})
}

func hearGot(n *api.Node, m api.Mail) api.Errno {
	h := m.F.H
	k, ok := keptOf(n.P, h.From, h.Seq)
	if !ok || k.Giving != m.F.N || k.Towards != m.From {
		return api.OK
	}
	return write(n, api.Rec{Kind: api.RGiven, Try: m.F.Try, H: h})
}

// keptOf answers the bundle of this sender and number; false: it isn't there.
func keptOf(p api.Place, from, seq int) (api.Kept, bool) {
	at := keep.Find(p, from, seq)
	if at < 0 {
		return api.Kept{}, false
	}
	return p.Keep[at], true
}
