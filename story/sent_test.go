package story

import (
	"math"
	"testing"

	"bottlepost/api"
	"bottlepost/world"
)

// wants: what each node has sent, and what is delivered there.
type wants [4]struct{ sent, delivered []api.Delivery }

func tells(t *testing.T, name string, w api.World, want wants) {
	t.Helper()
	for k := range want {
		a, e := Sent(w, k)
		if e != api.OK || !sameDeliveries(a, want[k].sent) {
			t.Errorf("%s: sent by %d: %v, %d, want %v", name, k, a, e, want[k].sent)
		}
		b, e := Delivered(w, k)
		if e != api.OK || !sameDeliveries(b, want[k].delivered) {
			t.Errorf("%s: delivered at %d: %v, %d, want %v", name, k, b, e, want[k].delivered)
		}
	}
}

// busy answers nodes with records of all kinds, and what of them is to be told.
func busy() ([]node, wants) {
	back := api.Head{From: 2, Seq: 0, To: 1, Till: 30, P: api.Plan{Bytes: 1, Block: 1}}
	l := []node{
		up(ticks(7), takes(first, 1, 4, 1), keeps(first, 7, 4, 2)),
		up(sends(first, 8, cargo()...), ticks(9), gives(first, 0, 4, 1), sends(second, 3, 0, 0, 0, 0, 0), given(first, 1), purges(first)),
		up(keeps(other, 0, 9), keeps(first, 0, 1, 2), keeps(first, 1, 3, 4), keeps(first, 2, 5, 0), delivers(other, 9),
			sends(back, 2, 0), delivers(first, cargo()...), ticks(55)),
		up(sends(other, 6, 9), ticks(1000000)),
	}
	var want wants
	want[1].sent = []api.Delivery{{From: 1, Seq: 0, Cargo: cargo()}, {From: 1, Seq: 1, Cargo: make([]byte, 5)}}
	want[2].sent = []api.Delivery{{From: 2, Seq: 0, Cargo: []byte{0}}}
	want[2].delivered = []api.Delivery{{From: 3, Seq: 0, Cargo: []byte{9}}, {From: 1, Seq: 0, Cargo: cargo()}}
	want[3].sent = []api.Delivery{{From: 3, Seq: 0, Cargo: []byte{9}}}
	return l, want
}

// P12.1: just these records are told, in their order, also of what was forgotten since.
func TestSentAndDelivered(t *testing.T) {
	tells(t, "new", world.New(), wants{})
	l, want := busy()
	tells(t, "up", worldOf(t, l...), want)
	for k := range l {
		l[k].down = true
	}
	tells(t, "down", worldOf(t, l...), want)
	for k := range l {
		l[k].wait = lines(sends(first, 8, 6, 6, 6, 6, 6), delivers(other, 6))
	}
	tells(t, "with what waits", worldOf(t, l...), want)
	for k := range l {
		l[k].log = nil
	}
	tells(t, "with what waits alone", worldOf(t, l...), wants{})
}

// P12.1: where a node is down its log needn't be one that it can have written.
func TestSentAndDeliveredOfAnyLog(t *testing.T) {
	w := worldOf(t, down("", delivers(first, cargo()...), sends(other, 1, 7), sends(first, 1, cargo()...), delivers(other, 8), sends(other, 1, 7), delivers(other, 8)))
	var want wants
	want[0].sent = []api.Delivery{{From: 3, Cargo: []byte{7}}, {From: 1, Cargo: cargo()}, {From: 3, Cargo: []byte{7}}}
	want[0].delivered = []api.Delivery{{From: 1, Cargo: cargo()}, {From: 3, Cargo: []byte{8}}, {From: 3, Cargo: []byte{8}}}
	tells(t, "any log", w, want)
}

// P12.1: as many records as a log may have, and as long cargos.
func TestSentAndDeliveredOfFullLogs(t *testing.T) {
	var log []api.Rec
	var want wants
	for i := range api.MaxLog {
		h := api.Head{From: 2, Seq: i % api.MaxSeq, To: 0, Till: api.MaxTime, P: api.Plan{Bytes: 1 + i%2, Block: 1}}
		d := api.Delivery{From: 2, Seq: h.Seq, Cargo: []byte{byte(i), 255}[:h.P.Bytes]}
		if i%3 == 0 {
			log = append(log, delivers(h, d.Cargo...))
			want[3].delivered = append(want[3].delivered, d)
		} else {
			log = append(log, sends(h, 1, d.Cargo...))
			want[3].sent = append(want[3].sent, d)
		}
	}
	tells(t, "200 records", worldOf(t, node{}, node{}, node{}, down("", log...)), want)

	long := make([]byte, api.MaxBytes)
	for i := range long {
		long[i] = byte(i * 7)
	}
	h := api.Head{From: 0, To: 1, Till: 1, P: api.Plan{Bytes: api.MaxBytes, Block: 15}}
	want = wants{}
	want[0].sent = []api.Delivery{{Cargo: long}}
	tells(t, "360 bytes", worldOf(t, up(sends(h, 64, long...))), want)
}

// wrong is a world that can't be, and Check's error of it.
type wrong struct {
	w    api.World
	want api.Errno
}

func wrongWorlds(t *testing.T) map[string]wrong {
	changed := func(change func(w *api.World)) api.World {
		l, _ := busy()
		w := worldOf(t, l...)
		change(&w)
		return w
	}
	return map[string]wrong{
		"no nodes":       {api.World{}, api.ErrForm},
		"a node less":    {changed(func(w *api.World) { w.Nodes = w.Nodes[:3] }), api.ErrForm},
		"a node more":    {changed(func(w *api.World) { w.Nodes = append(w.Nodes, api.Node{P: api.Place{Me: 4}}) }), api.ErrForm},
		"mail":           {changed(func(w *api.World) { w.Mail = []api.Mail{{To: 4}} }), api.ErrRange},
		"too much mail":  {changed(func(w *api.World) { w.Mail = make([]api.Mail, 41) }), api.ErrMany},
		"another place":  {changed(func(w *api.World) { w.Nodes[0].P.Time++ }), api.ErrForm},
		"torn":           {changed(func(w *api.World) { w.Nodes[3].D.Safe = append(w.Nodes[3].D.Safe, "8 0"...) }), api.ErrTorn},
		"no record":      {changed(func(w *api.World) { w.Nodes[3].D.Safe = append(w.Nodes[3].D.Safe, '\n') }), api.ErrText},
		"too long":       {changed(func(w *api.World) { w.Nodes[2].D.Wait = make([]byte, 60000) }), api.ErrMany},
		"waits":          {changed(func(w *api.World) { w.Nodes[2].D.Wait = []byte("8") }), api.ErrForm},
		"no such log":    {changed(func(w *api.World) { w.Nodes[2].D.Safe = append(w.Nodes[2].D.Safe, lines(ticks(3))...) }), api.ErrLate},
		"down, not new":  {changed(func(w *api.World) { w.Nodes[1].Up = false }), api.ErrForm},
		"two of a place": {changed(func(w *api.World) { w.Nodes[1] = w.Nodes[2] }), api.ErrWho},
	}
}

// P12.1: Check's error is told first; then that there is no such node.
func TestSentAndDeliveredErrors(t *testing.T) {
	l, _ := busy()
	nodes := []int{-1, 4, 5, 1000, math.MinInt, math.MaxInt}
	none := func(name string, w api.World, node int, want api.Errno) {
		t.Helper()
		a, e := Sent(w, node)
		b, f := Delivered(w, node)
		if a != nil || b != nil || e != want || f != want {
			t.Errorf("%s, node %d: %v, %d and %v, %d, want %d", name, node, a, e, b, f, want)
		}
	}
	for _, k := range nodes {
		none("busy", worldOf(t, l...), k, api.ErrWho)
		none("new", world.New(), k, api.ErrWho)
	}
	for name, c := range wrongWorlds(t) {
		for _, k := range append(nodes, 0, 1, 2, 3) {
			none(name, c.w, k, c.want)
		}
	}
}
