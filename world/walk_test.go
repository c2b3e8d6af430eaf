package world

import (
	"bytes"
	"math/rand"
	"slices"
	"strings"
	"testing"

	"bottlepost/api"
	"bottlepost/code"
	"bottlepost/keep"
	"bottlepost/note"
	"bottlepost/solve"
)

// model is a state, with what its places know beside it, so that this needn't be asked of whole logs each time.
type model struct {
	state
	places [4]api.Place
}

func modelOf(t *testing.T, s state) model {
	m := model{state: s}
	for k, n := range s.world(t).Nodes {
		m.places[k] = n.P
	}
	return m
}

func (m *model) write(k int, r api.Rec) api.Errno {
	p, e := keep.Next(m.places[k], r)
	if e != api.OK {
		return e
	}
	if len(m.logs[k]) == 200 {
		return api.ErrMany
	}
	m.places[k], m.logs[k] = p, append(m.logs[k], r)
	return api.OK
}

func (m *model) send(from, to int, f api.Frame) {
	if len(m.mail) < 40 {
		m.mail = append(m.mail, api.Mail{From: from, To: to, F: f})
	}
}

// bundle answers what place k has by this sender and number.
func (m *model) bundle(k, from, seq int) (api.Kept, bool) {
	for _, b := range m.places[k].Keep {
		if b.H.From == from && b.H.Seq == seq {
			return b, true
		}
	}
	return api.Kept{}, false
}

// do is what the document says of a happening; with an error, it may be half done.
func (m *model) do(x api.Happening) api.Errno {
	if x.Kind < 1 || x.Kind > 11 {
		return api.ErrForm
	}
	if x.Kind == api.HHear || x.Kind == api.HTwice || x.Kind == api.HLose {
		if x.N < 0 || x.N >= len(m.mail) {
			return api.ErrWho
		}
		mail := m.mail[x.N]
		if x.Kind != api.HTwice {
			m.mail = append(slices.Clone(m.mail[:x.N]), m.mail[x.N+1:]...)
		}
		if x.Kind != api.HLose && m.down[mail.To] {
			return api.ErrLate
		}
		if x.Kind != api.HLose {
			m.hear(mail.From, mail.To, mail.F)
		}
		return api.OK
	}
	if min(x.Node, x.To) < 0 || max(x.Node, x.To) > 3 {
		return api.ErrWho
	}
	if m.down[x.Node] != (x.Kind == api.HBoot) {
		return api.ErrLate
	}
	switch x.Kind {
	case api.HSend:
		h := api.Head{From: x.Node, Seq: m.places[x.Node].Seq, To: x.To, Till: x.N, P: api.Plan{Bytes: len(x.Cargo), Block: x.Block}}
		return m.write(x.Node, api.Rec{Kind: api.RSend, N: x.Shares, H: h, Cargo: x.Cargo})
	case api.HTick:
		if x.N < 1 || x.N > 1000000 || x.N+m.places[x.Node].Time > 1000000 {
			return api.ErrRange
		}
		return m.write(x.Node, tickRec(x.N+m.places[x.Node].Time))
	case api.HCrash:
		m.down[x.Node], m.places[x.Node] = true, api.Place{Me: x.Node}
		return api.OK
	case api.HBoot:
		return m.boot(x.Node)
	}
	return m.pass(x)
}

func (m *model) hear(from, to int, f api.Frame) {
	b, there := m.bundle(to, f.H.From, f.H.Seq)
	switch f.Kind {
	case api.FSymbol:
		if m.write(to, keepRec(f.H, f.S)) == api.OK && f.H.To == to {
			cargo, e := solve.Decode(f.H.P, append(slices.Clone(b.Symbols), f.S))
			if e == api.OK {
				m.write(to, deliverRec(f.H, cargo))
			}
		}
	case api.FShare:
		took := there && b.H == f.H && slices.Contains(b.Took, api.Taken{Place: from, Try: f.Try})
		if took || m.write(to, takeRec(f.H, from, f.N, f.Try)) == api.OK {
			m.send(to, from, api.Frame{Kind: api.FGot, H: f.H, N: f.N, Try: f.Try})
		}
	case api.FGot:
		if there && b.Giving == f.N && b.Towards == from {
			m.write(to, givenRec(f.H, f.Try))
		}
	case api.FReceipt:
		m.write(to, purgeRec(f.H))
	}
}

func (m *model) boot(k int) api.Errno {
	for _, text := range strings.SplitAfter(m.wait[k], "\n") {
		r, e := note.Parse(strings.TrimSuffix(text, "\n"))
		if e != api.OK || !strings.HasSuffix(text, "\n") || len(m.logs[k]) == 200 {
			break
		}
		m.logs[k] = append(m.logs[k], r)
	}
	p, e := keep.Replay(k, m.logs[k])
	m.places[k], m.wait[k], m.down[k] = p, "", false
	return e
}

func (m *model) pass(x api.Happening) api.Errno {
	b, there := m.bundle(x.Node, x.From, x.Seq)
	over := b.Delivered || b.Purged
	switch {
	case !there:
		return api.ErrWho
	case x.Kind == api.HTell && !over, x.Kind == api.HAgain && b.Giving == 0, x.Kind == api.HMeet && over:
		return api.ErrLate
	case x.Kind == api.HTell:
		m.send(x.Node, x.To, api.Frame{Kind: api.FReceipt, H: b.H})
	case x.Kind == api.HAgain:
		m.send(x.Node, b.Towards, api.Frame{Kind: api.FShare, H: b.H, N: b.Giving, Try: b.Try})
	case x.Kind == api.HGive:
		if e := m.write(x.Node, giveRec(b.H, x.To, b.Shares/2, b.Try+1)); e != api.OK {
			return e
		}
		m.send(x.Node, x.To, api.Frame{Kind: api.FShare, H: b.H, N: b.Shares / 2, Try: b.Try + 1})
	case x.To != b.H.To && b.Shares == 0:
		return api.ErrShort
	case b.Own:
		s, e := code.Make(b.H.P, b.Cargo, x.N)
		if e != api.OK {
			return e
		}
		m.send(x.Node, x.To, api.Frame{Kind: api.FSymbol, H: b.H, S: s})
	default:
		for _, s := range b.Symbols {
			if s.ID == x.N {
				m.send(x.Node, x.To, api.Frame{Kind: api.FSymbol, H: b.H, S: s})
				return api.OK
			}
		}
		return api.ErrWho
	}
	return api.OK
}

// copied answers a model whose lists may be changed.
func (m model) copied() model {
	m.state = m.state.clone()
	return m
}

// chance makes happenings that are likely to be without error, or nearly so.
type chance struct{ *rand.Rand }

// oneOf answers one of the kinds, each as often as it is told.
func (c chance) oneOf(l ...[2]int) int {
	all := 0
	for _, x := range l {
		all += x[1]
	}
	n := c.Intn(all)
	for _, x := range l {
		if n -= x[1]; n < 0 {
			return x[0]
		}
	}
	return 0
}

// sentCargo answers the cargo that a node sends by this number.
func sentCargo(node, seq int) []byte {
	l := make([]byte, 1+(node+seq)%5)
	for i := range l {
		l[i] = byte(1 + node*60 + seq*5 + i)
	}
	return l
}

func (c chance) happening(m model) api.Happening {
	x := api.Happening{
		Kind: c.oneOf([2]int{api.HSend, 6}, [2]int{api.HMeet, 25}, [2]int{api.HGive, 15}, [2]int{api.HAgain, 5}, [2]int{api.HTell, 6}, [2]int{api.HHear, 40},
			[2]int{api.HTwice, 6}, [2]int{api.HLose, 5}, [2]int{api.HTick, 5}, [2]int{api.HCrash, 2}, [2]int{api.HBoot, 6}),
		Node: c.Intn(4), To: c.Intn(4),
	}
	p := m.places[x.Node]
	switch x.Kind {
	case api.HHear, api.HTwice, api.HLose:
		x.N = c.Intn(len(m.mail)+1) - c.Intn(30)/29
	case api.HSend:
		x.N, x.Shares, x.Block, x.Cargo = p.Time+c.Intn(60), c.Intn(20), 1+c.Intn(2), sentCargo(x.Node, p.Seq)
	case api.HTick:
		x.N = c.Intn(12)
	default:
		c.bundle(p, &x)
	}
	if c.Intn(60) == 0 {
		x.Node, x.To, x.Kind = x.Node+c.Intn(7)-3, x.To+c.Intn(7)-3, c.Intn(14)-1
	}
	return x
}

// bundle lets the happening be of one that the place has, mostly.
func (c chance) bundle(p api.Place, x *api.Happening) {
	x.From, x.Seq, x.N = c.Intn(4), c.Intn(3), c.Intn(9)
	if len(p.Keep) == 0 || c.Intn(15) == 0 {
		return
	}
	b := p.Keep[c.Intn(len(p.Keep))]
	x.From, x.Seq = b.H.From, b.H.Seq
	if len(b.Symbols) > 0 && c.Intn(8) > 0 {
		x.N = b.Symbols[c.Intn(len(b.Symbols))].ID
	}
	if c.Intn(3) == 0 {
		x.To = b.H.To
	}
}

// meddle does what no happening does: mail comes of nowhere, and what one that is down had safe waits, cut short.
func (c chance) meddle(m *model) {
	if len(m.mail) > 0 && len(m.mail) < 40 && c.Intn(2) == 0 {
		mail := m.mail[c.Intn(len(m.mail))]
		mail.From, mail.To = c.Intn(4), c.Intn(4)
		mail.F.H.Till = max(1, mail.F.H.Till+c.Intn(3)-1)
		if mail.F.N > 0 {
			mail.F.N, mail.F.Try = 1+c.Intn(64), 1+c.Intn(4)
		}
		m.mail = append(m.mail, mail)
	}
	k := c.Intn(4)
	if n := len(m.logs[k]); m.down[k] && m.wait[k] == "" && n > 0 {
		left := c.Intn(n)
		for _, r := range m.logs[k][left:] {
			text, _ := note.Print(r)
			if c.Intn(20) > 0 {
				m.wait[k] += text + "\n"
			}
		}
		m.logs[k] = m.logs[k][:left]
		m.wait[k] = m.wait[k][:len(m.wait[k])-c.Intn(2)*c.Intn(len(m.wait[k])+1)]
	}
}

// seen counts what came of happenings, by kind and error.
type seen map[[2]int]int

func (s seen) want(t *testing.T, least int, l ...[2]int) {
	t.Helper()
	for _, x := range l {
		if s[x] < least {
			t.Errorf("kind %d with error %d came %d times only", x[0], x[1], s[x])
		}
	}
}

// P11.2: by chance, against the rules written out apart; whatever happens, it is a world that Check takes.
func TestDoByRules(t *testing.T) {
	count := seen{}
	for seed := range int64(150) {
		c := chance{rand.New(rand.NewSource(seed))}
		m := modelOf(t, state{})
		if seed%3 == 0 {
			m = modelOf(t, sample())
		}
		w := m.world(t)
		for i := range 150 {
			if seed%2 == 0 && i > 50 && c.Intn(6) == 0 {
				c.meddle(&m)
				w = m.world(t)
			}
			x := c.happening(m)
			after := m.copied()
			want := after.do(x)
			got, e := Do(w, x)
			count[[2]int{x.Kind, int(want)}]++
			if e != want {
				t.Fatalf("seed %d, %+v: %d, want %d", seed, x, e, want)
			}
			if e != api.OK {
				if !isZero(got) {
					t.Fatalf("seed %d, %+v: %+v beside an error", seed, x, got)
				}
				continue
			}
			m, w = after, got
			if want := m.world(t); !Same(w, want) || Check(w) != api.OK {
				t.Fatalf("seed %d, %+v: %s", seed, x, unlike(w, want))
			}
		}
	}
	for kind := api.HSend; kind <= api.HBoot; kind++ {
		count.want(t, 50, [2]int{kind, int(api.OK)})
	}
	count.want(t, 5, [][2]int{
		{api.HSend, int(api.ErrWho)}, {api.HSend, int(api.ErrLate)}, {api.HSend, int(api.ErrRange)}, {api.HTick, int(api.ErrRange)},
		{api.HMeet, int(api.ErrWho)}, {api.HMeet, int(api.ErrLate)}, {api.HMeet, int(api.ErrShort)},
		{api.HGive, int(api.ErrWho)}, {api.HGive, int(api.ErrLate)}, {api.HGive, int(api.ErrRange)},
		{api.HAgain, int(api.ErrWho)}, {api.HAgain, int(api.ErrLate)}, {api.HTell, int(api.ErrWho)}, {api.HTell, int(api.ErrLate)},
		{api.HHear, int(api.ErrWho)}, {api.HHear, int(api.ErrLate)}, {api.HTwice, int(api.ErrWho)}, {api.HTwice, int(api.ErrLate)}, {api.HLose, int(api.ErrWho)},
		{api.HCrash, int(api.ErrLate)}, {api.HBoot, int(api.ErrLate)},
	}...)
}

// P11.3: one Do behind the other, until logs are full; what has an error changes nothing.
func TestRunByRules(t *testing.T) {
	count, delivered := seen{}, 0
	for seed := range int64(12) {
		c := chance{rand.New(rand.NewSource(1000 + seed))}
		var start state
		if seed%2 == 0 {
			// Little room is left in the logs, and at each node another one.
			all(ticks(0, 120), ticks(1, 140), ticks(2, 160), ticks(3, 180))(&start)
		}
		m, w := modelOf(t, start), start.world(t)
		for range 25 {
			var l []api.Happening
			var want []api.Errno
			first := m.copied()
			for range c.Intn(151) {
				x := c.happening(m)
				after := m.copied()
				e := after.do(x)
				if e == api.OK {
					m = after
				}
				l, want = append(l, x), append(want, e)
				count[[2]int{x.Kind, int(e)}]++
			}
			got, said, e := Run(w, l)
			if e != api.OK || !slices.Equal(said, want) {
				t.Fatalf("seed %d: %d, %v, want %v", seed, e, said, want)
			}
			if !Same(w, first.world(t)) {
				t.Fatalf("seed %d: what was handed in is now %+v", seed, w)
			}
			if want := m.world(t); !Same(got, want) || Check(got) != api.OK {
				t.Fatalf("seed %d: %s", seed, unlike(got, want))
			}
			w = got
		}
		delivered += deliveredRightly(t, m.state)
	}
	count.want(t, 5, [][2]int{{api.HSend, int(api.ErrMany)}, {api.HTick, int(api.ErrMany)}, {api.HGive, int(api.ErrMany)}}...)
	if delivered < 50 {
		t.Errorf("delivered %d times only", delivered)
	}
}

// deliveredRightly answers how many records of what was delivered there are; each must be of what was sent.
func deliveredRightly(t *testing.T, s state) int {
	n := 0
	for _, r := range slices.Concat(s.logs[:]...) {
		if r.Kind == api.RDeliver {
			n++
			if want := sentCargo(r.H.From, r.H.Seq); !bytes.Equal(r.Cargo, want) {
				t.Errorf("%+v is delivered, %v was sent", r, want)
			}
		}
	}
	return n
}

// doneByOne answers what Do makes of one happening behind the other, by itself.
func doneByOne(w api.World, l []api.Happening) (api.World, []api.Errno) {
	var said []api.Errno
	for _, x := range l {
		y, e := Do(w, x)
		if e == api.OK {
			w = y
		}
		said = append(said, e)
	}
	return w, said
}

// P11.3: as many happenings as may be, and how what is wrong with all of it is told.
func TestRun(t *testing.T) {
	w := sample().world(t)
	script := []api.Happening{
		of(api.HTick, 1, 0, 0, 1), coming(api.HHear, 0), coming(api.HHear, 9), {}, of(api.HGive, 1, 3, 0, 0), of(api.HGive, 1, 3, 0, 0), of(api.HCrash, 3, 0, 0, 0),
		coming(api.HHear, 3), coming(api.HHear, 1), of(api.HBoot, 3, 0, 0, 0), of(api.HBoot, 3, 0, 0, 0), coming(api.HHear, 1),
	}
	said := []api.Errno{
		api.OK, api.OK, api.ErrWho, api.ErrForm, api.OK, api.ErrLate, api.OK,
		api.ErrLate, api.ErrLate, api.OK, api.ErrLate, api.OK,
	}
	x, got, e := Run(w, script)
	y, byOne := doneByOne(w, script)
	if e != api.OK || !slices.Equal(got, said) || !slices.Equal(byOne, said) || !Same(x, y) || Same(x, w) {
		t.Errorf("%v, %d; one by one: %v", got, e, byOne)
	}
	for _, l := range [][]api.Happening{nil, {}, {{}}, make([]api.Happening, 150)} {
		x, got, e := Run(w, l)
		if e != api.OK || len(got) != len(l) || !Same(x, w) {
			t.Errorf("%d happenings: %v, %d", len(l), got, e)
		}
		for _, e := range got {
			if e != api.ErrForm {
				t.Errorf("%d happenings: %d, want ErrForm", len(l), e)
			}
		}
	}
	last := append(make([]api.Happening, 149), of(api.HTick, 1, 0, 0, 1))
	if x, got, e := Run(w, last); e != api.OK || got[149] != api.OK || x.Nodes[1].P.Time != 1 {
		t.Errorf("the last one that may be: %v, %d", got, e)
	}
	wrong := sample().world(t)
	wrong.Mail[2].To = 4
	for _, c := range []struct {
		w    api.World
		n    int
		want api.Errno
	}{{w, 151, api.ErrMany}, {w, 1000, api.ErrMany}, {wrong, 151, api.ErrRange}, {wrong, 0, api.ErrRange}, {api.World{}, 151, api.ErrForm}} {
		if x, l, e := Run(c.w, make([]api.Happening, c.n)); e != c.want || !isZero(x) || l != nil {
			t.Errorf("%d happenings: %v, %d, want %d", c.n, l, e, c.want)
		}
	}
}
