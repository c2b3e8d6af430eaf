package story

import (
	"slices"
	"testing"

	"bottlepost/api"
	"bottlepost/keep"
	"bottlepost/note"
	"bottlepost/world"
)

// plan: three blocks of two bytes.
var plan = api.Plan{Bytes: 5, Block: 2}

// Bundles.
var (
	first  = api.Head{From: 1, Seq: 0, To: 2, Till: 50, P: plan}
	second = api.Head{From: 1, Seq: 1, To: 2, Till: 60, P: plan}
	other  = api.Head{From: 3, Seq: 0, To: 2, Till: 50, P: api.Plan{Bytes: 1, Block: 1}}
)

func cargo() []byte { return []byte{1, 2, 3, 4, 5} }

// Records.

func sends(h api.Head, shares int, cargo ...byte) api.Rec {
	return api.Rec{Kind: api.RSend, N: shares, H: h, Cargo: cargo}
}

func keeps(h api.Head, id int, data ...byte) api.Rec {
	return api.Rec{Kind: api.RKeep, H: h, S: api.Symbol{ID: id, Data: data}}
}

func delivers(h api.Head, cargo ...byte) api.Rec {
	return api.Rec{Kind: api.RDeliver, H: h, Cargo: cargo}
}

func gives(h api.Head, to, n, try int) api.Rec {
	return api.Rec{Kind: api.RGive, H: h, Place: to, N: n, Try: try}
}

func given(h api.Head, try int) api.Rec { return api.Rec{Kind: api.RGiven, H: h, Try: try} }

func takes(h api.Head, from, n, try int) api.Rec {
	return api.Rec{Kind: api.RTake, H: h, Place: from, N: n, Try: try}
}

func purges(h api.Head) api.Rec { return api.Rec{Kind: api.RPurge, H: h} }

func ticks(now int) api.Rec { return api.Rec{Kind: api.RTick, N: now} }

// node is told by what is written down: what its place knows is to be asked of that.
type node struct {
	log  []api.Rec
	wait string
	down bool
}

func up(l ...api.Rec) node { return node{log: l} }

func down(wait string, l ...api.Rec) node { return node{log: l, wait: wait, down: true} }

// lines answers what stands on a disk of the records.
func lines(l ...api.Rec) string {
	text := ""
	for _, r := range l {
		line, e := note.Print(r)
		if e != api.OK {
			panic("a record that can't be printed")
		}
		text += line + "\n"
	}
	return text
}

// worldOf answers the world of these nodes, and of new ones behind them.
func worldOf(t *testing.T, l ...node) api.World {
	t.Helper()
	w := world.New()
	for k, n := range l {
		w.Nodes[k].D = api.Disk{Safe: []byte(lines(n.log...)), Wait: []byte(n.wait)}
		w.Nodes[k].Up = !n.down
		if n.down {
			continue
		}
		p, e := keep.Replay(k, n.log)
		if e != api.OK {
			t.Fatalf("log %d can't be: %d", k, e)
		}
		w.Nodes[k].P = p
	}
	if e := world.Check(w); e != api.OK {
		t.Fatalf("such a world can't be: %d", e)
	}
	return w
}

func sameDelivery(a, b api.Delivery) bool {
	return a.From == b.From && a.Seq == b.Seq && slices.Equal(a.Cargo, b.Cargo)
}

func sameDeliveries(a, b []api.Delivery) bool { return slices.EqualFunc(a, b, sameDelivery) }
