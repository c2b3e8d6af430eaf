package keep

import (
	"fmt"
	"math"
	"reflect"
	"slices"
	"testing"

	"bottlepost/api"
)

// P9.1: by sender and number, and the first one of several.
func TestFind(t *testing.T) {
	p := sample()
	for at, k := range p.Keep {
		if got := Find(p, k.H.From, k.H.Seq); got != at {
			t.Errorf("%d, %d: %d, want %d", k.H.From, k.H.Seq, got, at)
		}
	}
	for _, c := range [][2]int{{0, 0}, {3, 0}, {0, 2}, {0, 4}, {1, 3}, {2, 5}, {4, 0}, {-1, 3}, {0, -1}, {50, 3}, {math.MinInt, math.MaxInt}} {
		if got := Find(p, c[0], c[1]); got != -1 {
			t.Errorf("%d, %d: %d, want -1", c[0], c[1], got)
		}
	}
	if got := Find(api.Place{}, 0, 0); got != -1 {
		t.Errorf("in nothing: %d, want -1", got)
	}
	// Places that Check refuses are asked as well.
	odd := api.Place{Me: -9, Keep: []api.Kept{
		{H: api.Head{From: 7, Seq: 99}}, {H: api.Head{From: -1, Seq: 3}}, {H: api.Head{From: 1, Seq: 3}}, {H: api.Head{From: 1, Seq: 3, Till: 5}}, {},
	}}
	for at, want := range []int{0, 1, 2, 2, 4} {
		if got := Find(odd, odd.Keep[at].H.From, odd.Keep[at].H.Seq); got != want {
			t.Errorf("in what may not be, %d: %d, want %d", at, got, want)
		}
	}
}

// fields: each of them changes one thing of a place.
var fields = map[string]func(p *api.Place){
	"nothing":         func(p *api.Place) {},
	"Me":              func(p *api.Place) { p.Me = 1 },
	"Me below 0":      func(p *api.Place) { p.Me = -1 },
	"Time":            func(p *api.Place) { p.Time++ },
	"Seq":             func(p *api.Place) { p.Seq++ },
	"no bundle":       func(p *api.Place) { p.Keep = nil },
	"a bundle less":   func(p *api.Place) { p.Keep = p.Keep[:4] },
	"a bundle more":   func(p *api.Place) { p.Keep = append(p.Keep, api.Kept{}) },
	"another order":   func(p *api.Place) { slices.Reverse(p.Keep) },
	"From":            on(atGiving, func(k *api.Kept) { k.H.From++ }),
	"number":          on(atGiving, func(k *api.Kept) { k.H.Seq++ }),
	"To":              on(atGiving, func(k *api.Kept) { k.H.To++ }),
	"Till":            on(atGiving, func(k *api.Kept) { k.H.Till++ }),
	"Bytes":           on(atGiving, func(k *api.Kept) { k.H.P.Bytes++ }),
	"Block":           on(atGiving, func(k *api.Kept) { k.H.P.Block++ }),
	"Own":             on(atGiving, func(k *api.Kept) { k.Own = true }),
	"not Own":         on(atOwn, func(k *api.Kept) { k.Own = false }),
	"Cargo":           on(atGiving, func(k *api.Kept) { k.Cargo = []byte{0} }),
	"no Cargo":        on(atOwn, func(k *api.Kept) { k.Cargo = nil }),
	"a byte of Cargo": on(atOwn, func(k *api.Kept) { k.Cargo[4]++ }),
	"a byte less":     on(atOwn, func(k *api.Kept) { k.Cargo = k.Cargo[:4] }),
	"no Symbols":      on(atGiving, func(k *api.Kept) { k.Symbols = nil }),
	"a symbol less":   on(atGiving, func(k *api.Kept) { k.Symbols = k.Symbols[:1] }),
	"symbols' order":  on(atGiving, func(k *api.Kept) { slices.Reverse(k.Symbols) }),
	"ID":              on(atGiving, func(k *api.Kept) { k.Symbols[1].ID++ }),
	"Data":            on(atGiving, func(k *api.Kept) { k.Symbols[1].Data[1]++ }),
	"no Data":         on(atGiving, func(k *api.Kept) { k.Symbols[1].Data = nil }),
	"Shares":          on(atGiving, func(k *api.Kept) { k.Shares++ }),
	"Giving":          on(atGiving, func(k *api.Kept) { k.Giving++ }),
	"Towards":         on(atGiving, func(k *api.Kept) { k.Towards++ }),
	"Try":             on(atGiving, func(k *api.Kept) { k.Try++ }),
	"no Took":         on(atGiving, func(k *api.Kept) { k.Took = nil }),
	"Took's place":    on(atGiving, func(k *api.Kept) { k.Took[2].Place++ }),
	"Took's try":      on(atGiving, func(k *api.Kept) { k.Took[2].Try++ }),
	"Took's order":    on(atGiving, func(k *api.Kept) { slices.Reverse(k.Took) }),
	"Delivered":       on(atGiving, func(k *api.Kept) { k.Delivered = true }),
	"not Delivered":   on(atDelivered, func(k *api.Kept) { k.Delivered = false }),
	"Purged":          on(atGiving, func(k *api.Kept) { k.Purged = true }),
	"the last bundle": on(atBare, func(k *api.Kept) { k.Try = -1 }),
}

// P9.1: every field counts, whatever it is.
func TestSame(t *testing.T) {
	for a, f := range fields {
		for b, g := range fields {
			if Same(changed(sample(), f), changed(sample(), g)) != (a == b) {
				t.Errorf("%s, %s: the same isn't %v", a, b, a == b)
			}
		}
	}
	none := api.Place{Keep: []api.Kept{{Symbols: []api.Symbol{{}}}}}
	empty := api.Place{Keep: []api.Kept{{Cargo: []byte{}, Symbols: []api.Symbol{{Data: api.Block{}}}, Took: []api.Taken{}}}}
	if !Same(none, empty) || !Same(empty, none) || !Same(api.Place{}, api.Place{Keep: []api.Kept{}}) {
		t.Error("an empty list isn't like none")
	}
}

// P9.3: from a new place on, record by record.
func TestReplay(t *testing.T) {
	h := api.Head{From: 1, Seq: 3, To: 2, Till: 50, P: plan}
	own := api.Head{From: 2, Seq: 0, To: 0, Till: 60, P: plan}
	log := []api.Rec{
		{Kind: api.RKeep, H: h, S: symbol(0, 1, 2)},
		{Kind: api.RTake, Place: 1, N: 9, Try: 2, H: h},
		{Kind: api.RSend, N: 7, H: own, Cargo: cargo()},
		{Kind: api.RGive, Place: 3, N: 4, Try: 1, H: h},
		{Kind: api.RKeep, H: h, S: symbol(7, 4, 2)},
		{Kind: api.RTick, N: 40},
		{Kind: api.RGiven, Try: 1, H: h},
		{Kind: api.RKeep, H: h, S: symbol(1, 3, 4)},
		{Kind: api.RDeliver, H: h, Cargo: cargo()},
		{Kind: api.RPurge, H: own},
		{Kind: api.RTick, N: 50},
	}
	wants := map[int]api.Place{
		0: {Me: 2},
		4: {Me: 2, Seq: 1, Keep: []api.Kept{
			{H: h, Symbols: []api.Symbol{symbol(0, 1, 2)}, Shares: 5, Giving: 4, Towards: 3, Try: 1, Took: []api.Taken{{Place: 1, Try: 2}}},
			{H: own, Own: true, Cargo: cargo(), Shares: 7},
		}},
		9: {Me: 2, Time: 40, Seq: 1, Keep: []api.Kept{
			{H: h, Try: 1, Took: []api.Taken{{Place: 1, Try: 2}}, Delivered: true},
			{H: own, Own: true, Cargo: cargo(), Shares: 7},
		}},
		11: {Me: 2, Time: 50, Seq: 1, Keep: []api.Kept{{H: own, Own: true, Cargo: cargo(), Purged: true}}},
	}
	for n, want := range wants {
		if p, e := Replay(2, log[:n]); e != api.OK || !Same(p, want) {
			t.Errorf("%d records: %+v, %d", n, p, e)
		}
	}
	// Each of the records hangs on those ahead of it.
	for _, c := range []struct {
		without int
		want    api.Errno
	}{{0, api.ErrShort}, {1, api.ErrRange}, {2, api.ErrWho}, {3, api.ErrLate}, {4, api.ErrShort}, {7, api.ErrShort}} {
		l := slices.Delete(slices.Clone(log), c.without, c.without+1)
		if p, e := Replay(2, l); e != c.want || !isZero(p) {
			t.Errorf("without %d: %+v, %d, want %d", c.without, p, e, c.want)
		}
	}
}

// ticks answers so many records of a clock that goes on.
func ticks(n int) []api.Rec {
	var l []api.Rec
	for i := range n {
		l = append(l, api.Rec{Kind: api.RTick, N: i + 1})
	}
	return l
}

// P9.3: which error is told, and how many records there may be.
func TestReplayRefuses(t *testing.T) {
	wrong := slices.Concat(ticks(199), []api.Rec{{}})
	for _, c := range []struct {
		name string
		me   int
		l    []api.Rec
		want api.Errno
	}{
		{"nothing", 0, nil, api.OK},
		{"an empty list", 3, []api.Rec{}, api.OK},
		{"as many as may be", 1, ticks(200), api.OK},
		{"one too many", 1, ticks(201), api.ErrMany},
		{"the one too many is wrong", 1, slices.Concat(ticks(200), []api.Rec{{}}), api.ErrMany},
		{"one too many, the first one is wrong", 1, slices.Concat([]api.Rec{{}}, ticks(200)), api.ErrMany},
		{"the last one is wrong", 1, wrong, api.ErrForm},
		{"no place", 4, nil, api.ErrRange},
		{"no place, one too many", -1, ticks(201), api.ErrRange},
		{"no place, a wrong one", 4, []api.Rec{{}}, api.ErrRange},
		{"the first of two wrong ones", 0, []api.Rec{{Kind: api.RTick, N: -1}, {}}, api.ErrRange},
		{"the first of two wrong ones, the other way round", 0, []api.Rec{{}, {Kind: api.RTick, N: -1}}, api.ErrForm},
		{"the clock stands still", 0, []api.Rec{{Kind: api.RTick, N: 5}, {Kind: api.RTick, N: 5}}, api.ErrLate},
	} {
		p, e := Replay(c.me, c.l)
		if e != c.want || e != api.OK && !isZero(p) {
			t.Errorf("%s: %+v, %d, want %d", c.name, p, e, c.want)
		}
		if e == api.OK && (p.Me != c.me || p.Time != len(c.l)) {
			t.Errorf("%s: %+v", c.name, p)
		}
	}
}

// room is memory that a list takes up, with the spare room behind it.
type room struct {
	name     string
	from, to uintptr
}

// roomOf answers the memory of a list, if it has any.
func roomOf(name string, list any) []room {
	v := reflect.ValueOf(list)
	size := uintptr(v.Cap()) * v.Type().Elem().Size()
	if size == 0 {
		return nil
	}
	return []room{{name, v.Pointer(), v.Pointer() + size}}
}

// rooms answers the memory of all lists of a place.
func rooms(name string, p api.Place) []room {
	l := roomOf(name+" Keep", p.Keep)
	for i, k := range p.Keep {
		of := fmt.Sprintf("%s %d ", name, i)
		l = slices.Concat(l, roomOf(of+"Cargo", k.Cargo), roomOf(of+"Symbols", k.Symbols), roomOf(of+"Took", k.Took))
		for j, s := range k.Symbols {
			l = append(l, roomOf(fmt.Sprintf("%sData %d", of, j), s.Data)...)
		}
	}
	return l
}

func overlap(a, b room) bool { return a.from < b.to && b.from < a.to }

// roomy answers a list with spare room behind it that holds marks.
func roomy[T any](l []T, mark T) []T {
	all := slices.Clone(l)
	for range 5 {
		all = append(all, mark)
	}
	return all[:len(l)]
}

// roomySample answers the sample with marks in the spare room of all its lists.
func roomySample() api.Place {
	p := sample()
	for i := range p.Keep {
		k := &p.Keep[i]
		for j := range k.Symbols {
			k.Symbols[j].Data = roomy(k.Symbols[j].Data, 77)
		}
		k.Symbols = roomy(k.Symbols, symbol(77, 7, 7))
		k.Cargo = roomy(k.Cargo, 77)
		k.Took = roomy(k.Took, api.Taken{Place: 77, Try: 77})
	}
	p.Keep = roomy(p.Keep, api.Kept{Shares: 77})
	return p
}

// whole tells a place with all the spare room of its lists.
func whole(p api.Place) string {
	text := fmt.Sprintf("%+v %+v\n", p, p.Keep[:cap(p.Keep)])
	for _, k := range p.Keep {
		text += fmt.Sprintf("%v %v %v\n", k.Cargo[:cap(k.Cargo)], k.Symbols[:cap(k.Symbols)], k.Took[:cap(k.Took)])
		for _, s := range k.Symbols {
			text += fmt.Sprintln(s.Data[:cap(s.Data)])
		}
	}
	return text
}

// P2: what is handed in is only read, and nothing of an answer shares its memory, or that of another list of the answer.
func TestMemory(t *testing.T) {
	p := sample()
	giving, bare, own := p.Keep[atGiving].H, p.Keep[atBare].H, p.Keep[atOwn].H
	next, other := own, api.Head{From: 1, Seq: 2, To: 2, Till: 50, P: plan}
	next.Seq = 5
	for _, r := range []api.Rec{
		{Kind: api.RSend, N: 4, H: next, Cargo: roomy(cargo(), 77)},
		{Kind: api.RKeep, H: giving, S: api.Symbol{ID: 2, Data: roomy([]byte{5, 0}, 77)}},
		{Kind: api.RKeep, H: bare, S: api.Symbol{ID: 2, Data: roomy([]byte{5, 0}, 77)}},
		{Kind: api.RKeep, H: other, S: api.Symbol{ID: 2, Data: roomy([]byte{5, 0}, 77)}},
		{Kind: api.RGive, Place: 3, N: 4, Try: 1, H: own},
		{Kind: api.RGiven, Try: 4, H: giving},
		{Kind: api.RTake, Place: 1, N: 2, Try: 9, H: giving},
		{Kind: api.RTake, Place: 1, N: 2, Try: 9, H: other},
		{Kind: api.RPurge, H: giving},
		{Kind: api.RPurge, H: other},
		{Kind: api.RTick, N: 11},
		{Kind: api.RTick, N: 12},
		{Kind: api.RTick, N: 100},
	} {
		in := roomySample()
		before := whole(in)
		record := fmt.Sprintf("%+v %v %v", r, r.S.Data[:cap(r.S.Data)], r.Cargo[:cap(r.Cargo)])
		q, e := Next(in, r)
		if e != api.OK {
			t.Fatalf("%+v: %d", r, e)
		}
		if whole(in) != before || fmt.Sprintf("%+v %v %v", r, r.S.Data[:cap(r.S.Data)], r.Cargo[:cap(r.Cargo)]) != record {
			t.Errorf("%+v: what was handed in is now %s", r, whole(in))
		}
		given := slices.Concat(rooms("given", in), roomOf("record's Data", r.S.Data), roomOf("record's Cargo", r.Cargo))
		answered := rooms("answered", q)
		for i, a := range answered {
			for _, b := range slices.Concat(given, answered[i+1:]) {
				if overlap(a, b) {
					t.Errorf("kind %d: %s and %s share memory", r.Kind, a.name, b.name)
				}
			}
		}
	}
}

// P2: the same of a log; two of its records may share memory, the place that it makes doesn't.
func TestReplayMemory(t *testing.T) {
	bytes := roomy(cargo(), 77)
	l := []api.Rec{
		{Kind: api.RSend, N: 4, H: api.Head{From: 0, Seq: 0, To: 2, Till: 50, P: plan}, Cargo: bytes},
		{Kind: api.RSend, N: 4, H: api.Head{From: 0, Seq: 1, To: 2, Till: 50, P: plan}, Cargo: bytes},
		{Kind: api.RKeep, H: api.Head{From: 1, Seq: 1, To: 2, Till: 50, P: plan}, S: api.Symbol{ID: 3, Data: bytes[:2]}},
		{Kind: api.RKeep, H: api.Head{From: 1, Seq: 1, To: 2, Till: 50, P: plan}, S: api.Symbol{ID: 4, Data: bytes[:2]}},
	}
	before := fmt.Sprint(l, bytes[:cap(bytes)])
	p, e := Replay(0, l)
	if e != api.OK || len(p.Keep) != 3 {
		t.Fatalf("%+v, %d", p, e)
	}
	if fmt.Sprint(l, bytes[:cap(bytes)]) != before {
		t.Errorf("what was handed in is now %v", l)
	}
	answered := rooms("answered", p)
	for i, a := range answered {
		for _, b := range slices.Concat(roomOf("record", bytes), answered[i+1:]) {
			if overlap(a, b) {
				t.Errorf("%s and %s share memory", a.name, b.name)
			}
		}
	}
}
