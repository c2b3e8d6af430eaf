package world

import (
	"fmt"
	"slices"
	"testing"

	"bottlepost/api"
	"bottlepost/keep"
	"bottlepost/note"
)

// plan: three blocks of two bytes.
var plan = api.Plan{Bytes: 5, Block: 2}

// Bundles of the sample.
var (
	passed = api.Head{From: 1, Seq: 0, To: 2, Till: 50, P: plan}                            // it goes by way of node 3
	single = api.Head{From: 1, Seq: 1, To: 0, Till: 60, P: plan}                            // it has one share alone
	purged = api.Head{From: 1, Seq: 2, To: 3, Till: 70, P: plan}                            // its sender knows that it was delivered
	done   = api.Head{From: 3, Seq: 0, To: 2, Till: 40, P: api.Plan{Bytes: 1, Block: 1}}    // it is delivered
	none   = api.Head{From: 2, Seq: 9, To: 0, Till: 40, P: api.Plan{Bytes: 360, Block: 15}} // it is nowhere
)

func cargo() []byte { return []byte{1, 2, 3, 4, 5} }

func symbol(id int, data ...byte) api.Symbol { return api.Symbol{ID: id, Data: data} }

// state is a world told by what is written down: what its places know is to be asked of their logs.
type state struct {
	logs [4][]api.Rec
	wait [4]string
	down [4]bool
	mail []api.Mail
}

// Where in the sample's mail the frames of each kind stand.
const (
	atSymbol  = 0
	atShare   = 1
	atGot     = 2
	atReceipt = 3
)

// sample answers a state with a mail of each kind that is heard, and has something done, where it goes; its memory is new.
func sample() state {
	return state{
		logs: [4][]api.Rec{
			{{Kind: api.RTick, N: 7}},
			{
				{Kind: api.RSend, N: 9, H: passed, Cargo: cargo()},
				{Kind: api.RSend, N: 1, H: single, Cargo: cargo()},
				{Kind: api.RSend, N: 4, H: purged, Cargo: cargo()},
				{Kind: api.RPurge, H: purged},
			},
			{
				{Kind: api.RKeep, H: passed, S: symbol(0, 1, 2)},
				{Kind: api.RKeep, H: done, S: symbol(0, 9)},
				{Kind: api.RKeep, H: passed, S: symbol(7, 4, 2)},
				{Kind: api.RDeliver, H: done, Cargo: []byte{9}},
			},
			{
				{Kind: api.RSend, N: 6, H: done, Cargo: []byte{9}},
				{Kind: api.RKeep, H: passed, S: symbol(7, 4, 2)},
				{Kind: api.RTake, Place: 1, N: 5, Try: 2, H: passed},
				{Kind: api.RGive, Place: 0, N: 2, Try: 1, H: passed},
			},
		},
		mail: []api.Mail{
			{From: 1, To: 2, F: api.Frame{Kind: api.FSymbol, H: passed, S: symbol(1, 3, 4)}},
			{From: 3, To: 0, F: api.Frame{Kind: api.FShare, H: passed, N: 2, Try: 1}},
			{From: 0, To: 3, F: api.Frame{Kind: api.FGot, H: passed, N: 2, Try: 1}},
			{From: 2, To: 1, F: api.Frame{Kind: api.FReceipt, H: passed}},
		},
	}
}

// clone answers a state whose lists may be changed.
func (s state) clone() state {
	for k, log := range s.logs {
		s.logs[k] = slices.Clone(log)
	}
	s.mail = slices.Clone(s.mail)
	return s
}

// line answers what stands on a disk of the record.
func line(t *testing.T, r api.Rec) string {
	t.Helper()
	text, e := note.Print(r)
	if e != api.OK {
		t.Fatalf("%+v can't be printed: %d", r, e)
	}
	return text + "\n"
}

// world answers the world that is told.
func (s state) world(t *testing.T) api.World {
	t.Helper()
	w := api.World{Mail: slices.Clone(s.mail)}
	for k, log := range s.logs {
		n := api.Node{P: api.Place{Me: k}, D: api.Disk{Wait: []byte(s.wait[k])}, Up: !s.down[k]}
		for _, r := range log {
			n.D.Safe = append(n.D.Safe, line(t, r)...)
		}
		if n.Up {
			p, e := keep.Replay(k, log)
			if e != api.OK {
				t.Fatalf("log %d can't be: %d", k, e)
			}
			n.P = p
		}
		w.Nodes = append(w.Nodes, n)
	}
	return w
}

// Changes of a state.
type change func(s *state)

func all(l ...change) change {
	return func(s *state) {
		for _, f := range l {
			f(s)
		}
	}
}

func nothing(s *state) {}

func wrote(k int, l ...api.Rec) change {
	return func(s *state) { s.logs[k] = append(s.logs[k], l...) }
}

// ticks: so many records of the clock of node k, which has none yet.
func ticks(k, n int) change {
	return func(s *state) {
		for i := range n {
			s.logs[k] = append(s.logs[k], api.Rec{Kind: api.RTick, N: i + 1})
		}
	}
}

// filled: node k has so many records then, of bundles that it isn't asked for.
func filled(k, n int) change {
	return func(s *state) {
		for i := len(s.logs[k]); i < n; i++ {
			// No bundle may have too many symbols.
			h := api.Head{From: (k + 1) % 4, Seq: 40 + i%5, To: k, Till: 90, P: api.Plan{Bytes: 360, Block: 15}}
			s.logs[k] = append(s.logs[k], api.Rec{Kind: api.RKeep, H: h, S: api.Symbol{ID: i, Data: make(api.Block, 15)}})
		}
	}
}

func fullMail(s *state) { s.mail = slices.Repeat(s.mail, 10) }

func crashed(k int) change { return func(s *state) { s.down[k] = true } }

func waits(k int, text string) change { return func(s *state) { s.wait[k] = text } }

func sent(l ...api.Mail) change {
	return func(s *state) { s.mail = append(s.mail, l...) }
}

// onWay: this, and no other mail.
func onWay(l ...api.Mail) change {
	return func(s *state) { s.mail = slices.Clone(l) }
}

func gone(at int) change {
	return func(s *state) { s.mail = slices.Delete(s.mail, at, at+1) }
}

// step: what a happening makes of the sample, once start has changed it.
type step struct {
	name  string
	start change
	x     api.Happening
	want  api.Errno
	after change
}

func runSteps(t *testing.T, l []step) {
	t.Helper()
	for _, c := range l {
		s := sample()
		c.start(&s)
		w, before := s.world(t), s.world(t)
		x, e := Do(w, c.x)
		if e != c.want {
			t.Errorf("%s: %d, want %d", c.name, e, c.want)
			continue
		}
		if !Same(w, before) {
			t.Errorf("%s: what was handed in is now %+v", c.name, w)
		}
		y, said, f := Run(w, []api.Happening{c.x})
		if f != api.OK || !slices.Equal(said, []api.Errno{c.want}) {
			t.Errorf("%s: run: %v, %d", c.name, said, f)
		}
		if e != api.OK {
			if !isZero(x) || !Same(y, before) {
				t.Errorf("%s: %+v beside an error; run: %+v", c.name, x, y)
			}
			continue
		}
		c.after(&s)
		if want := s.world(t); !Same(x, want) || !Same(y, want) || Check(x) != api.OK {
			t.Errorf("%s: %s\nrun: %s", c.name, unlike(x, want), unlike(y, want))
		}
	}
}

// unlike tells what of a world isn't as it should be.
func unlike(x, want api.World) string {
	text := ""
	for k := range min(len(x.Nodes), len(want.Nodes)) {
		a, b := x.Nodes[k], want.Nodes[k]
		if !Same(api.World{Nodes: []api.Node{a}}, api.World{Nodes: []api.Node{b}}) {
			text += fmt.Sprintf("\nnode %d: %v %+v %q %q\nwant: %v %+v %q %q", k, a.Up, a.P, a.D.Safe, a.D.Wait, b.Up, b.P, b.D.Safe, b.D.Wait)
		}
	}
	if !Same(api.World{Mail: x.Mail}, api.World{Mail: want.Mail}) {
		text += fmt.Sprintf("\nmail: %+v\nwant: %+v", x.Mail, want.Mail)
	}
	return fmt.Sprintf("%d nodes%s", len(x.Nodes), text)
}

// isZero says whether nothing is there, not even an empty list.
func isZero(w api.World) bool { return w.Nodes == nil && w.Mail == nil }
