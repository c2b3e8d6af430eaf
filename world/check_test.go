package world

import (
	"math"
	"slices"
	"strings"
	"testing"

	"bottlepost/api"
)

// P11.1: all are up, know nothing, and nothing is on its way.
func TestNew(t *testing.T) {
	w := New()
	if !Same(w, state{}.world(t)) || Check(w) != api.OK {
		t.Errorf("%+v", w)
	}
	if len(w.Nodes) != api.MaxPlaces || len(w.Mail) != 0 {
		t.Errorf("%d nodes, %d mails", len(w.Nodes), len(w.Mail))
	}
	for k, n := range w.Nodes {
		if !n.Up || n.P.Me != k || n.P.Time != 0 || n.P.Seq != 0 || len(n.P.Keep) != 0 || len(n.D.Safe) != 0 || len(n.D.Wait) != 0 {
			t.Errorf("node %d: %+v", k, n)
		}
	}
	w.Nodes[0].Up = false
	if !New().Nodes[0].Up {
		t.Error("two new worlds share memory")
	}
}

// odd: lines that are records each, but no log of any place.
const odd = "8 0 5 0 0 0 0 0 0 0 0 - -\n8 0 5 0 0 0 0 0 0 0 0 - -\n"

// P11.1: what may be, up to the edges.
func TestCheckTakes(t *testing.T) {
	for name, f := range map[string]change{
		"the sample":                   nothing,
		"all are down":                 all(crashed(0), crashed(1), crashed(2), crashed(3)),
		"what waits is a record":       all(crashed(1), waits(1, odd[:26])),
		"what waits is no log":         all(crashed(1), waits(1, odd)),
		"what waits is anything":       all(crashed(0), waits(0, "\x00\xff\n\n")),
		"as much waits as may be":      all(crashed(0), waits(0, strings.Repeat("x", 60000-26))),
		"as many records as may be":    func(s *state) { s.logs[0] = nil; ticks(0, 200)(s) },
		"as much mail as may be":       fullMail,
		"no mail":                      onWay(),
		"mail of what is nowhere":      onWay(api.Mail{From: 0, To: 3, F: api.Frame{Kind: api.FReceipt, H: none}}),
		"mail to a node that is down":  crashed(2),
		"mail to the node it is from":  onWay(api.Mail{From: 2, To: 2, F: api.Frame{Kind: api.FReceipt, H: none}}),
		"records of what is purged":    wrote(2, api.Rec{Kind: api.RPurge, H: passed}),
		"another bundle by its number": wrote(0, api.Rec{Kind: api.RPurge, H: api.Head{From: 1, To: 3, Till: 9, P: plan}}),
	} {
		s := sample()
		f(&s)
		if e := Check(s.world(t)); e != api.OK {
			t.Errorf("%s: %d, want OK", name, e)
		}
	}
	// Of one that is down it isn't asked what its log makes.
	w := sample().world(t)
	w.Nodes[0] = api.Node{D: api.Disk{Safe: []byte(odd)}}
	if e := Check(w); e != api.OK {
		t.Errorf("a log that can't be of one that is down: %d, want OK", e)
	}
}

// wrong is what is wrong with a world, and how that is told.
type wrong struct {
	name string
	f    func(w *api.World)
	want api.Errno
}

// at changes node k.
func at(k int, f func(n *api.Node)) func(w *api.World) {
	return func(w *api.World) { f(&w.Nodes[k]) }
}

func safe(text string) func(n *api.Node) {
	return func(n *api.Node) { n.D.Safe = []byte(text) }
}

func safer(text string) func(n *api.Node) {
	return func(n *api.Node) { n.D.Safe = append(n.D.Safe, text...) }
}

// another answers the beginning of the head of a bundle that isn't from node k.
func another(k int) string {
	if k == 1 {
		return "0 0 2"
	}
	return "1 0 2"
}

// wrongNode answers what can be wrong with node k, which is up: each group is told ahead of the groups behind it.
func wrongNode(k int) [][]wrong {
	return [][]wrong{
		{
			{"torn", at(k, safer("x")), api.ErrTorn},
			{"torn, the rest waits", at(k, func(n *api.Node) { n.D.Safe, n.D.Wait = append(n.D.Safe, odd[:25]...), []byte("\n") }), api.ErrTorn},
			{"no record", at(k, safer("x\n")), api.ErrText},
			{"a wrong record", at(k, safer("8 0 -1 0 0 0 0 0 0 0 0 - -\n")), api.ErrRange},
			{"of no kind", at(k, safer("9 0 0 0 0 0 0 0 0 0 0 - -\n")), api.ErrForm},
			{"too many records", at(k, safer(strings.Repeat(odd, 100)+odd[:26])), api.ErrMany},
			{"too many bytes", at(k, func(n *api.Node) { n.D.Wait = make([]byte, 60001-len(n.D.Safe)) }), api.ErrMany},
		},
		{
			{"a record waits", at(k, func(n *api.Node) { n.D.Wait = []byte("8 0 99 0 0 0 0 0 0 0 0 - -\n") }), api.ErrForm},
			{"a byte waits", at(k, func(n *api.Node) { n.D.Wait = []byte(" ") }), api.ErrForm},
		},
		{
			{"the clock stands still", at(k, safe(odd)), api.ErrLate},
			{"the clock stands still, later on", at(k, safe("8 0 1 0 0 0 0 0 0 0 0 - -\n"+odd)), api.ErrLate},
			{"another one's bundle is sent", at(k, safe("1 0 4 0 "+another(k)+" 50 1 1 0 - -07\n")), api.ErrWho},
			{"nothing is given", at(k, safe("4 3 4 1 1 0 2 50 1 1 0 - -\n")), api.ErrWho},
			{"too many shares come", at(k, safe("6 3 65 1 "+another(k)+" 50 1 1 0 - -\n")), api.ErrRange},
		},
		{
			{"another place", at(k, func(n *api.Node) { n.P.Me = (k + 1) % 4 }), api.ErrForm},
			{"no place", at(k, func(n *api.Node) { n.P.Me = 4 }), api.ErrForm},
			{"below all places", at(k, func(n *api.Node) { n.P.Me = math.MinInt }), api.ErrForm},
			{"another time", at(k, func(n *api.Node) { n.P.Time++ }), api.ErrForm},
			{"another number", at(k, func(n *api.Node) { n.P.Seq++ }), api.ErrForm},
			{"a bundle more", at(k, func(n *api.Node) { n.P.Keep = append(n.P.Keep, api.Kept{H: none}) }), api.ErrForm},
			{"nothing is known", at(k, func(n *api.Node) { n.P = api.Place{} }), api.ErrForm},
		},
	}
}

// bySteps answers, for each two things wrong that are told at different steps, the first told one, and both.
func bySteps(steps [][]wrong, tell func(name string, want api.Errno, f ...func(w *api.World))) {
	for i, l := range steps {
		for _, a := range l {
			tell(a.name, a.want, a.f)
			for _, b := range slices.Concat(steps[i+1:]...) {
				// What is told later is done first, so that it can't mend what is told first.
				tell(a.name+", "+b.name, a.want, b.f, a.f)
			}
		}
	}
}

func refused(t *testing.T, name string, want api.Errno, f ...func(w *api.World)) {
	t.Helper()
	w := sample().world(t)
	for _, g := range f {
		g(&w)
	}
	if e := Check(w); e != want {
		t.Errorf("%s: %d, want %d", name, e, want)
	}
}

// P11.1: what is wrong with the nodes' count, ahead of what is wrong with the mail, ahead of what is wrong with the nodes.
func TestCheckRefuses(t *testing.T) {
	mail := []wrong{
		{"too much mail", func(w *api.World) { w.Mail = slices.Repeat(w.Mail, 11)[:41] }, api.ErrMany},
		{"mail to nowhere", func(w *api.World) { w.Mail[1].To = 4 }, api.ErrRange},
		{"mail of no kind", func(w *api.World) { w.Mail[3].F.Kind = 0 }, api.ErrForm},
		{"mail of no bundle", func(w *api.World) { w.Mail[0].F.H.To = 1 }, api.ErrWho},
	}
	nodes := []wrong{
		{"no nodes", func(w *api.World) { w.Nodes = nil }, api.ErrForm},
		{"a node too few", func(w *api.World) { w.Nodes = w.Nodes[:3] }, api.ErrForm},
		{"a node too many", func(w *api.World) { w.Nodes = append(w.Nodes, api.Node{P: api.Place{Me: 4}, Up: true}) }, api.ErrForm},
	}
	// Each later node is wrong in one way by then; which one doesn't matter.
	for k := range 4 {
		steps := append([][]wrong{mail}, wrongNode(k)...)
		if k < 3 {
			steps = append(steps, slices.Concat(wrongNode(k+1)...))
		}
		bySteps(steps, func(name string, want api.Errno, f ...func(w *api.World)) {
			refused(t, name, want, f...)
			for _, n := range nodes {
				refused(t, n.name+", "+name, n.want, append(slices.Clone(f), n.f)...)
			}
		})
	}
}

// P11.1: each of a place's bundles is compared whole.
func TestCheckBundles(t *testing.T) {
	kept := func(k, i int, f func(b *api.Kept)) func(w *api.World) {
		return at(k, func(n *api.Node) { f(&n.P.Keep[i]) })
	}
	for name, f := range map[string]func(w *api.World){
		"Till":       kept(1, 0, func(b *api.Kept) { b.H.Till++ }),
		"shares":     kept(1, 0, func(b *api.Kept) { b.Shares++ }),
		"cargo":      kept(1, 1, func(b *api.Kept) { b.Cargo[4]++ }),
		"purged":     kept(1, 2, func(b *api.Kept) { b.Purged = false }),
		"data":       kept(2, 0, func(b *api.Kept) { b.Symbols[1].Data[0]++ }),
		"no symbols": kept(2, 0, func(b *api.Kept) { b.Symbols = nil }),
		"delivered":  kept(2, 1, func(b *api.Kept) { b.Delivered = false }),
		"gives":      kept(3, 0, func(b *api.Kept) { b.Giving, b.Towards = 0, 0 }),
		"try":        kept(3, 0, func(b *api.Kept) { b.Try = 0 }),
		"took":       kept(3, 0, func(b *api.Kept) { b.Took = nil }),
		"order":      at(1, func(n *api.Node) { slices.Reverse(n.P.Keep) }),
		"all":        at(1, func(n *api.Node) { n.P.Keep = nil }),
		"all waits":  at(1, func(n *api.Node) { n.D.Wait, n.D.Safe = n.D.Safe, nil }),
		"none safe":  at(1, func(n *api.Node) { n.D.Safe = nil }),
	} {
		refused(t, name, api.ErrForm, f)
	}
}

// P11.1: of one that is down its disk is asked, and what it knows, which is nothing.
func TestCheckDown(t *testing.T) {
	down := func(k int, f func(n *api.Node)) func(w *api.World) {
		return func(w *api.World) {
			w.Nodes[k].P, w.Nodes[k].Up = api.Place{Me: k}, false
			f(&w.Nodes[k])
		}
	}
	for k := range 4 {
		for _, c := range []wrong{
			{"down", down(k, func(n *api.Node) {}), api.OK},
			{"torn", down(k, safe(odd[:25])), api.ErrTorn},
			{"torn, something waits", down(k, func(n *api.Node) { n.D = api.Disk{Safe: []byte("x"), Wait: []byte("x")} }), api.ErrTorn},
			{"torn, and it knows", down(k, func(n *api.Node) { n.D.Safe, n.P.Time = []byte("x"), 7 }), api.ErrTorn},
			{"too much waits", down(k, func(n *api.Node) { n.D.Wait = make([]byte, 60001) }), api.ErrMany},
			{"another place", down(k, func(n *api.Node) { n.P.Me = (k + 1) % 4 }), api.ErrForm},
			{"no place", down(k, func(n *api.Node) { n.P.Me = -1 }), api.ErrForm},
			{"a time", down(k, func(n *api.Node) { n.P.Time = 1 }), api.ErrForm},
			{"a number", down(k, func(n *api.Node) { n.P.Seq = 1 }), api.ErrForm},
			{"a bundle", down(k, func(n *api.Node) { n.P.Keep = []api.Kept{{}} }), api.ErrForm},
		} {
			refused(t, c.name, c.want, c.f)
		}
	}
	for k := range 4 {
		// It knows what its log makes, as if it were up.
		refused(t, "it knows all", api.ErrForm, at(k, func(n *api.Node) { n.Up = false }))
		// It knows nothing, as if it were down.
		refused(t, "it knows nothing", api.ErrForm, at(k, func(n *api.Node) { n.P = api.Place{Me: k} }))
	}
}

// fields: each of them changes one thing of a world.
var fields = map[string]func(w *api.World){
	"nothing":            func(w *api.World) {},
	"Me":                 at(1, func(n *api.Node) { n.P.Me = 3 }),
	"Time":               at(1, func(n *api.Node) { n.P.Time++ }),
	"Time of another":    at(2, func(n *api.Node) { n.P.Time++ }),
	"Seq":                at(1, func(n *api.Node) { n.P.Seq-- }),
	"shares":             at(1, func(n *api.Node) { n.P.Keep[0].Shares++ }),
	"a bundle less":      at(1, func(n *api.Node) { n.P.Keep = n.P.Keep[1:] }),
	"a byte of a cargo":  at(1, func(n *api.Node) { n.P.Keep[1].Cargo[2]++ }),
	"data":               at(2, func(n *api.Node) { n.P.Keep[0].Symbols[1].Data[1]++ }),
	"took":               at(3, func(n *api.Node) { n.P.Keep[0].Took[0].Try++ }),
	"Safe":               at(1, func(n *api.Node) { n.D.Safe[0]++ }),
	"a byte less safe":   at(1, func(n *api.Node) { n.D.Safe = n.D.Safe[1:] }),
	"nothing safe":       at(1, func(n *api.Node) { n.D.Safe = nil }),
	"Wait":               at(1, func(n *api.Node) { n.D.Wait = []byte("x") }),
	"Wait, another":      at(1, func(n *api.Node) { n.D.Wait = []byte("y") }),
	"all waits":          at(1, func(n *api.Node) { n.D.Safe, n.D.Wait = nil, n.D.Safe }),
	"down":               at(1, func(n *api.Node) { n.Up = false }),
	"another one down":   at(3, func(n *api.Node) { n.Up = false }),
	"a node less":        func(w *api.World) { w.Nodes = w.Nodes[:3] },
	"another node less":  func(w *api.World) { w.Nodes = w.Nodes[1:] },
	"a node more":        func(w *api.World) { w.Nodes = append(w.Nodes, api.Node{}) },
	"nodes' order":       func(w *api.World) { slices.Reverse(w.Nodes) },
	"no nodes":           func(w *api.World) { w.Nodes = nil },
	"no mail":            func(w *api.World) { w.Mail = nil },
	"a mail less":        func(w *api.World) { w.Mail = w.Mail[:3] },
	"a mail more":        func(w *api.World) { w.Mail = append(w.Mail, api.Mail{}) },
	"mail's order":       func(w *api.World) { slices.Reverse(w.Mail) },
	"mail's From":        func(w *api.World) { w.Mail[0].From++ },
	"mail's To":          func(w *api.World) { w.Mail[0].To++ },
	"frame's kind":       func(w *api.World) { w.Mail[1].F.Kind++ },
	"frame's head":       func(w *api.World) { w.Mail[1].F.H.P.Block++ },
	"frame's number":     func(w *api.World) { w.Mail[1].F.N++ },
	"frame's try":        func(w *api.World) { w.Mail[1].F.Try++ },
	"frame's symbol":     func(w *api.World) { w.Mail[0].F.S.ID++ },
	"frame's data":       func(w *api.World) { w.Mail[0].F.S.Data[1]++ },
	"no mail, no nodes":  func(w *api.World) { *w = api.World{} },
	"what can't be":      func(w *api.World) { w.Nodes[0].P.Me, w.Mail[0].To = math.MinInt, math.MaxInt },
	"what can't be, too": func(w *api.World) { w.Nodes[0].P.Me, w.Mail[0].To = math.MinInt, math.MinInt },
}

// P11.1: every field counts, whatever it is.
func TestSame(t *testing.T) {
	made := func(f func(w *api.World)) api.World {
		w := sample().world(t)
		f(&w)
		return w
	}
	for a, f := range fields {
		for b, g := range fields {
			if Same(made(f), made(g)) != (a == b) {
				t.Errorf("%s, %s: the same isn't %v", a, b, a == b)
			}
		}
	}
	empty := api.World{Nodes: []api.Node{{P: api.Place{Keep: []api.Kept{}}, D: api.Disk{Safe: []byte{}, Wait: []byte{}}}}, Mail: []api.Mail{}}
	bare := api.World{Nodes: []api.Node{{}}}
	if !Same(empty, bare) || !Same(bare, empty) || !Same(api.World{}, api.World{Nodes: []api.Node{}, Mail: []api.Mail{}}) {
		t.Error("an empty list isn't like none")
	}
}
