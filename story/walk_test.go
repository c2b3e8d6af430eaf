package story

import (
	"math/rand"
	"slices"
	"strings"
	"testing"

	"bottlepost/api"
	"bottlepost/code"
	"bottlepost/keep"
	"bottlepost/note"
	"bottlepost/solve"
	"bottlepost/world"
)

// bundle that was sent, by what the happening said that sent it.
type bundle struct {
	from, seq, to, till, shares, block int
	cargo                              []byte
}

func (b bundle) delivery() api.Delivery {
	return api.Delivery{From: b.from, Seq: b.seq, Cargo: b.cargo}
}

// walk goes from one happening to the next one by chance, from a new world on.
type walk struct {
	*rand.Rand
	w     api.World
	knows [4]api.Place // what each place knows, or knew when it was up last
	sent  []bundle
	came  [4][]api.Delivery
	count map[string]int
}

func newWalk(seed int64, count map[string]int) *walk {
	x := &walk{Rand: rand.New(rand.NewSource(seed)), w: world.New(), count: count}
	for k, n := range x.w.Nodes {
		x.knows[k] = n.P
	}
	return x
}

// kinds: each as often as it is likely to be.
var kinds = slices.Concat(
	slices.Repeat([]int{api.HHear}, 40), slices.Repeat([]int{api.HMeet}, 30), slices.Repeat([]int{api.HGive}, 14), slices.Repeat([]int{api.HAgain}, 6),
	slices.Repeat([]int{api.HTwice}, 7), slices.Repeat([]int{api.HTell}, 5), slices.Repeat([]int{api.HBoot}, 5), slices.Repeat([]int{api.HSend}, 4),
	slices.Repeat([]int{api.HLose}, 4), slices.Repeat([]int{api.HTick}, 6), slices.Repeat([]int{api.HCrash}, 2),
)

func (x *walk) happening() api.Happening {
	h := api.Happening{Kind: kinds[x.Intn(len(kinds))], Node: x.Intn(4), To: x.Intn(4)}
	p := x.knows[h.Node]
	switch h.Kind {
	case api.HHear, api.HTwice, api.HLose:
		h.N = x.Intn(len(x.w.Mail) + 1)
	case api.HSend:
		h.N, h.Shares, h.Block, h.Cargo = p.Time+5+x.Intn(40), 1+x.Intn(20), 1+x.Intn(2), make([]byte, 1+x.Intn(4))
		x.Read(h.Cargo)
	case api.HTick:
		h.N = 1 + x.Intn(12)
	case api.HMeet, api.HGive, api.HAgain, api.HTell:
		x.choose(p, &h)
	}
	return h
}

// choose lets the happening be of a bundle that the place has.
func (x *walk) choose(p api.Place, h *api.Happening) {
	if len(p.Keep) == 0 {
		return
	}
	k := p.Keep[x.Intn(len(p.Keep))]
	h.From, h.Seq, h.N = k.H.From, k.H.Seq, x.Intn(12)
	if len(k.Symbols) > 0 {
		h.N = k.Symbols[x.Intn(len(k.Symbols))].ID
	}
	if x.Intn(4) == 0 {
		h.To = k.H.To
	}
}

// step does it, if that may be done.
func (x *walk) step(t *testing.T, h api.Happening) api.Errno {
	t.Helper()
	w, e := world.Do(x.w, h)
	if e != api.OK {
		return e
	}
	if h.Kind == api.HSend {
		x.sent = append(x.sent, bundle{h.Node, x.knows[h.Node].Seq, h.To, h.N, h.Shares, h.Block, h.Cargo})
	}
	x.w = w
	for k, n := range w.Nodes {
		if n.Up {
			x.knows[k] = n.P
		}
	}
	x.look(t)
	return e
}

// look: does the story hold still?
func (x *walk) look(t *testing.T) {
	t.Helper()
	for k, n := range x.w.Nodes {
		x.lookAt(t, k)
		if !n.Up {
			x.count["a node is down"]++
		}
	}
	for _, b := range x.sent {
		n, e := Shares(x.w, b.from, b.seq)
		if want := sharesBy(x.knows, b.from, b.seq, x.count); e != api.OK || n != want {
			t.Fatalf("shares of %+v: %d, %d, want %d", b, n, e, want)
		}
		switch {
		case n > b.shares:
			t.Fatalf("shares of %+v: %d", b, n)
		case n == b.shares:
			x.count["shares, all there"]++
		default:
			x.count["shares, fewer"]++
		}
	}
	if n, e := Shares(x.w, 0, 49); n != 0 || e != api.OK {
		t.Fatalf("shares of what nobody sent: %d, %d", n, e)
	}
}

// lookAt: is all there that this node sent, and what was delivered there, and has it come rightly?
func (x *walk) lookAt(t *testing.T, k int) {
	t.Helper()
	var want []api.Delivery
	for _, b := range x.sent {
		if b.from == k {
			want = append(want, b.delivery())
		}
	}
	if l, e := Sent(x.w, k); e != api.OK || !sameDeliveries(l, want) {
		t.Fatalf("sent by %d: %v, %d, want %v", k, l, e, want)
	}
	l, e := Delivered(x.w, k)
	if old := x.came[k]; e != api.OK || len(l) < len(old) || !sameDeliveries(l[:len(old)], old) {
		t.Fatalf("delivered at %d: %v, %d, ahead of that %v", k, l, e, old)
	}
	for i := len(x.came[k]); i < len(l); i++ {
		x.lookAtNew(t, k, l[i], l[:i])
	}
	x.came[k] = l
}

// lookAtNew: may this one be delivered there, after these?
func (x *walk) lookAtNew(t *testing.T, k int, d api.Delivery, ahead []api.Delivery) {
	t.Helper()
	at := slices.IndexFunc(x.sent, func(b bundle) bool { return b.from == d.From && b.seq == d.Seq })
	if at < 0 || x.sent[at].to != k || !sameDelivery(d, x.sent[at].delivery()) {
		t.Fatalf("delivered at %d: %v; sent: %+v", k, d, x.sent)
	}
	if x.sent[at].till <= x.knows[k].Time {
		t.Fatalf("delivered at %d at %d: %+v", k, x.knows[k].Time, x.sent[at])
	}
	if slices.ContainsFunc(ahead, func(a api.Delivery) bool { return a.From == d.From && a.Seq == d.Seq }) {
		t.Fatalf("delivered at %d: %v after %v", k, d, ahead)
	}
	x.count["delivered"]++
}

// sharesBy is what the document says of them, by what the places know.
func sharesBy(knows [4]api.Place, from, seq int, count map[string]int) int {
	find := func(k int) api.Kept {
		for _, b := range knows[k].Keep {
			if b.H.From == from && b.H.Seq == seq {
				return b
			}
		}
		return api.Kept{}
	}
	all := 0
	for k := range 4 {
		b := find(k)
		all += b.Shares
		if b.Giving == 0 {
			continue
		}
		took := false
		for _, t := range find(b.Towards).Took {
			took = took || t.Place == k && t.Try == b.Try
		}
		switch {
		case knows[b.Towards].Time >= b.H.Till:
			count["giving, too late"]++
		case took:
			count["giving, taken"]++
		default:
			count["giving"]++
			all += b.Giving
		}
	}
	return all
}

// hearAll lets all nodes be up, and all that is on its way come.
func (x *walk) hearAll(t *testing.T) {
	t.Helper()
	for k, n := range x.w.Nodes {
		if !n.Up {
			x.step(t, api.Happening{Kind: api.HBoot, Node: k})
		}
	}
	for len(x.w.Mail) > 0 {
		if e := x.step(t, api.Happening{Kind: api.HHear}); e != api.OK {
			t.Fatalf("a node that is up doesn't hear: %d", e)
		}
	}
}

// lookAtEnd: where all is heard, is all delivered that can be known, and nothing else?
func (x *walk) lookAtEnd(t *testing.T) {
	t.Helper()
	for k, p := range x.knows {
		for _, b := range p.Keep {
			if b.H.To != k || b.Delivered {
				continue
			}
			x.count["not known at the end"]++
			if cargo, e := solve.Decode(b.H.P, b.Symbols); e != api.ErrShort {
				t.Fatalf("at %d: %+v isn't delivered, is %v, %d", k, b, cargo, e)
			}
		}
	}
}

// bring lets the sender meet the receiver until that has all blocks of a bundle; where it has not come and is in time, it is delivered so.
func (x *walk) bring(t *testing.T, b bundle) {
	t.Helper()
	isThere := func(d api.Delivery) bool { return sameDelivery(d, b.delivery()) }
	inTime := b.till > x.knows[b.from].Time && b.till > x.knows[b.to].Time
	was := slices.ContainsFunc(x.came[b.to], isThere)
	if was || !inTime {
		x.count["nothing to bring"]++
		return
	}
	plan := api.Plan{Bytes: len(b.cargo), Block: b.block}
	for id := 0; !slices.ContainsFunc(x.came[b.to], isThere); id++ {
		if id*b.block >= len(b.cargo) {
			t.Fatalf("%+v isn't delivered", b)
		}
		x.step(t, api.Happening{Kind: api.HMeet, Node: b.from, To: b.to, From: b.from, Seq: b.seq, N: id})
		if s, e := code.Make(plan, b.cargo, id); e != api.OK || len(x.w.Mail) != 1 || !slices.Equal(x.w.Mail[0].F.S.Data, s.Data) {
			t.Fatalf("%+v, symbol %d: %+v is on its way, want %v", b, id, x.w.Mail, s)
		}
		x.hearAll(t)
	}
	x.count["brought"]++
}

// enough: did each of these come so often that the test says something?
func enough(t *testing.T, count map[string]int, least int, l ...string) {
	t.Helper()
	for _, what := range l {
		if count[what] < least {
			t.Errorf("%s: %d times only", what, count[what])
		}
	}
}

// P12.1, P12.2 and P12.3: whatever happens, from a new world on.
func TestWalks(t *testing.T) {
	count := map[string]int{}
	for seed := range int64(60) {
		x := newWalk(seed, count)
		for range 150 {
			x.step(t, x.happening())
		}
		x.hearAll(t)
		x.lookAtEnd(t)
		for _, b := range x.sent {
			x.bring(t, b)
		}
		x.lookAtEnd(t)
	}
	enough(t, count, 20, "delivered", "shares, all there", "shares, fewer", "giving", "giving, taken", "giving, too late", "a node is down",
		"not known at the end", "nothing to bring", "brought")
}

// recordsOf answers what is safe at a node.
func recordsOf(t *testing.T, n api.Node) []api.Rec {
	t.Helper()
	var l []api.Rec
	for line := range strings.Lines(string(n.D.Safe)) {
		r, e := note.Parse(strings.TrimSuffix(line, "\n"))
		if e != api.OK {
			t.Fatalf("%q: %d", line, e)
		}
		l = append(l, r)
	}
	return l
}

// spoil answers the node when it is down, with some of what it had safe waiting, cut short or with one missing; and the place that this makes.
func (x *walk) spoil(t *testing.T, k int) (node, api.Place) {
	t.Helper()
	l := recordsOf(t, x.w.Nodes[k])
	if len(l) > 0 && x.Intn(3) == 0 {
		at := x.Intn(len(l))
		l = slices.Delete(l, at, at+1)
	}
	safe := x.Intn(len(l) + 1)
	wait := lines(l[safe:]...)
	wait = wait[:len(wait)-x.Intn(2)*x.Intn(len(wait)+1)]
	whole := safe + strings.Count(wait, "\n")
	p, e := keep.Replay(k, l[:whole])
	if e != api.OK {
		x.count["can't be replayed"]++
		p = api.Place{Me: k}
	} else if whole > safe {
		x.count["more than what is safe"]++
	}
	return down(wait, l[:safe]...), p
}

// P12.2: by what stands on the disks, whatever a crash has left.
func TestSharesOfWhatIsLeft(t *testing.T) {
	count := map[string]int{}
	for seed := range int64(100) {
		x := newWalk(1000+seed, count)
		for range 100 {
			x.step(t, x.happening())
		}
		for range 10 {
			var l []node
			knows := x.knows
			for k, n := range x.w.Nodes {
				if !n.Up || x.Intn(2) == 0 {
					left, p := x.spoil(t, k)
					l, knows[k] = append(l, left), p
				} else {
					l = append(l, up(recordsOf(t, n)...))
				}
			}
			w := worldOf(t, l...)
			for _, b := range x.sent {
				want := sharesBy(knows, b.from, b.seq, count)
				if n, e := Shares(w, b.from, b.seq); e != api.OK || n != want {
					t.Fatalf("seed %d: shares of %+v: %d, %d, want %d", seed, b, n, e, want)
				}
				if want > b.shares {
					count["more than were sent"]++
				}
			}
		}
	}
	enough(t, count, 20, "can't be replayed", "more than what is safe", "giving", "giving, taken", "giving, too late", "more than were sent")
}

// P12.3: what is in time, only.
func TestInTime(t *testing.T) {
	of := func(kind, node, to, n int) api.Happening {
		return api.Happening{Kind: kind, Node: node, To: to, From: 1, N: n}
	}
	send := api.Happening{Kind: api.HSend, Node: 1, To: 2, N: 50, Shares: 8, Block: 1, Cargo: []byte{7, 8}}
	hear := api.Happening{Kind: api.HHear}
	for now, want := range map[int]int{48: 1, 49: 1, 50: 0, 51: 0, 1000000: 0} {
		for _, last := range []api.Happening{hear, {Kind: api.HTwice}} {
			w, _, e := world.Run(world.New(), []api.Happening{send, of(api.HMeet, 1, 2, 0), hear, of(api.HMeet, 1, 2, 1), of(api.HTick, 2, 0, now), last, hear})
			if e != api.OK {
				t.Fatal(e)
			}
			if l, e := Delivered(w, 2); e != api.OK || len(l) != want {
				t.Errorf("at %d: %v, %d, want %d", now, l, e, want)
			}
		}
	}
}
