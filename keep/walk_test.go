package keep

import (
	"bytes"
	"cmp"
	"math/rand"
	"slices"
	"testing"

	"bottlepost/api"
	"bottlepost/code"
	"bottlepost/note"
	"bottlepost/solve"
)

// chance makes records that are likely to be the next one of a place, or nearly so.
type chance struct{ *rand.Rand }

// plans are few, so that symbols are soon enough.
var plans = []api.Plan{{Bytes: 1, Block: 1}, {Bytes: 3, Block: 2}, {Bytes: 4, Block: 2}}

// head answers one of few heads, so that most are met again; here and there a number comes with another head.
func (c chance) head(p api.Place) api.Head {
	if len(p.Keep) > 0 && c.Intn(10) < 6 {
		return p.Keep[c.Intn(len(p.Keep))].H
	}
	from, seq := c.Intn(4), c.Intn(5)
	to := (from + 1 + seq%3) % 4
	if from != p.Me && c.Intn(2) == 0 {
		to = p.Me
	}
	return api.Head{From: from, Seq: seq, To: to, Till: p.Time + c.Intn(30), P: plans[seq%3]}
}

// cargoOf answers the cargo that a bundle was sent with.
func cargoOf(h api.Head) []byte {
	l := make([]byte, h.P.Bytes)
	for i := range l {
		l[i] = byte(1 + h.From*50 + h.Seq*7 + i)
	}
	return l
}

func (c chance) record(p api.Place) api.Rec {
	h := c.head(p)
	k := api.Kept{H: h}
	if at := Find(p, h.From, h.Seq); at >= 0 {
		k = p.Keep[at]
	}
	small := func(n int) int { return max(0, n+c.Intn(12)/10-c.Intn(12)/10) }
	switch kind := 1 + c.Intn(8); kind {
	case api.RSend:
		h.From, h.Seq = p.Me, small(p.Seq)
		h.To = (p.Me + 1 + c.Intn(3)) % 4
		return api.Rec{Kind: kind, N: c.Intn(66), H: h, Cargo: cargoOf(h)}
	case api.RKeep:
		s, _ := code.Make(h.P, cargoOf(h), c.Intn(9))
		return api.Rec{Kind: kind, H: h, S: s}
	case api.RDeliver:
		cargo := cargoOf(h)
		if c.Intn(10) == 0 {
			cargo[0]++
		}
		return api.Rec{Kind: kind, H: h, Cargo: cargo}
	case api.RGive:
		return api.Rec{Kind: kind, Place: c.Intn(4), N: small(k.Shares / 2), Try: small(k.Try + 1), H: h}
	case api.RGiven:
		return api.Rec{Kind: kind, Try: small(k.Try), H: h}
	case api.RTake:
		return api.Rec{Kind: kind, Place: c.Intn(4), N: c.Intn(9), Try: c.Intn(4), H: h}
	case api.RPurge:
		if c.Intn(4) > 0 {
			return api.Rec{Kind: api.RTick, N: p.Time + c.Intn(3)}
		}
		return api.Rec{Kind: kind, H: h}
	default:
		return api.Rec{Kind: kind, N: small(p.Time + 1)}
	}
}

// rule: if it is bad, that is the error.
type rule struct {
	bad bool
	e   api.Errno
}

// verdict answers Next's error of a record that note.Check takes at a place that Check takes: the document's rules, one behind the other.
func verdict(p api.Place, r api.Rec) api.Errno {
	for _, x := range rulesOf(p, r) {
		if x.bad {
			return x.e
		}
	}
	return api.OK
}

func rulesOf(p api.Place, r api.Rec) []rule {
	switch r.Kind {
	case api.RSend:
		return []rule{
			{r.H.From != p.Me, api.ErrWho},
			{r.H.Seq != p.Seq, api.ErrLate},
			{!(r.H.Till > p.Time), api.ErrLate},
			{r.N < 1 || r.N > 64, api.ErrRange},
			{len(p.Keep) == 12, api.ErrMany},
		}
	case api.RTick:
		return []rule{{!(r.N > p.Time), api.ErrLate}}
	}
	k, there := api.Kept{H: r.H}, false
	for _, x := range p.Keep {
		if x.H.From == r.H.From && x.H.Seq == r.H.Seq {
			k, there = x, true
		}
	}
	first := []rule{
		{!there && (r.Kind == api.RDeliver || r.Kind == api.RGive || r.Kind == api.RGiven), api.ErrWho},
		{!(r.H.Till > p.Time), api.ErrLate},
		{there && k.H != r.H, api.ErrForm},
		{!there && r.H.From == p.Me, api.ErrWho},
		{!there && len(p.Keep) == 12, api.ErrMany},
	}
	return append(first, rulesOfKept(p.Me, k, r)...)
}

func rulesOfKept(me int, k api.Kept, r api.Rec) []rule {
	over := rule{k.Delivered || k.Purged, api.ErrLate}
	hasID, hasTaken := false, false
	for _, s := range k.Symbols {
		hasID = hasID || s.ID == r.S.ID
	}
	for _, x := range k.Took {
		hasTaken = hasTaken || x.Place == r.Place && x.Try == r.Try
	}
	switch r.Kind {
	case api.RKeep:
		return []rule{{k.Own, api.ErrWho}, over, {hasID, api.ErrTwice}, {len(k.Symbols) == 60, api.ErrMany}}
	case api.RDeliver:
		known, e := solve.Decode(k.H.P, k.Symbols)
		return []rule{{k.H.To != me, api.ErrWho}, over, {e != api.OK, e}, {!bytes.Equal(known, r.Cargo), api.ErrTorn}}
	case api.RGive:
		return []rule{
			over,
			{r.Place == me, api.ErrWho},
			{k.Giving > 0, api.ErrLate},
			{r.Try-k.Try != 1, api.ErrLate},
			{k.Shares < 2, api.ErrRange},
			{r.N*2 != k.Shares && r.N*2 != k.Shares-1, api.ErrRange},
		}
	case api.RGiven:
		return []rule{over, {k.Giving == 0, api.ErrLate}, {r.Try != k.Try, api.ErrLate}}
	case api.RTake:
		return []rule{
			over,
			{r.Try == 0 || r.N == 0, api.ErrRange},
			{r.N+k.Shares > 64, api.ErrRange},
			{hasTaken, api.ErrTwice},
			{len(k.Took) == 40, api.ErrMany},
		}
	}
	return []rule{over}
}

// after answers what a record without error makes of a place: the bundle is taken out, changed, laid behind all, and all are sorted.
func after(p api.Place, r api.Rec) api.Place {
	q := api.Place{Me: p.Me, Time: p.Time, Seq: p.Seq}
	k := api.Kept{H: r.H}
	for _, x := range p.Keep {
		switch {
		case r.Kind == api.RTick && x.H.Till <= r.N:
		case x.H == r.H:
			k = x
		default:
			q.Keep = append(q.Keep, x)
		}
	}
	switch r.Kind {
	case api.RTick:
		q.Time = r.N
		return q
	case api.RSend:
		k.Own, k.Cargo, k.Shares = true, r.Cargo, r.N
		q.Seq = p.Seq + 1
	case api.RKeep:
		k.Symbols = slices.Concat(k.Symbols, []api.Symbol{r.S})
	case api.RDeliver, api.RPurge:
		k = api.Kept{H: k.H, Own: k.Own, Cargo: k.Cargo, Try: k.Try, Took: k.Took, Delivered: r.Kind == api.RDeliver, Purged: r.Kind == api.RPurge}
	case api.RGive:
		k.Shares, k.Giving, k.Towards, k.Try = k.Shares-r.N, r.N, r.Place, r.Try
	case api.RGiven:
		k.Giving, k.Towards = 0, 0
	case api.RTake:
		k.Took = slices.Concat(k.Took, []api.Taken{{Place: r.Place, Try: r.Try}})
		k.Shares += r.N
	}
	q.Keep = append(q.Keep, k)
	slices.SortFunc(q.Keep, func(a, b api.Kept) int {
		return cmp.Or(cmp.Compare(a.H.From, b.H.From), cmp.Compare(a.H.Seq, b.H.Seq))
	})
	return q
}

// walk goes on from a new place by so many records, and answers those that had no error; each is told, with the places ahead of it and behind it.
func walk(t *testing.T, seed int64, n int, tell func(p, q api.Place, r api.Rec, e api.Errno)) []api.Rec {
	c := chance{rand.New(rand.NewSource(seed))}
	p, e := New(c.Intn(api.MaxPlaces))
	if e != api.OK {
		t.Fatal(e)
	}
	var log []api.Rec
	for range n {
		r := c.record(p)
		q, e := Next(p, r)
		tell(p, q, r, e)
		if e == api.OK {
			p, log = q, append(log, r)
		}
	}
	return log
}

// P9.2: by chance, against the rules written out apart; whatever comes, it is a place that Check takes.
func TestNextByRules(t *testing.T) {
	seen := map[[2]int]int{}
	for seed := range int64(300) {
		walk(t, seed, 300, func(p, q api.Place, r api.Rec, e api.Errno) {
			want := note.Check(r)
			if want == api.OK {
				want = verdict(p, r)
			}
			seen[[2]int{r.Kind, int(want)}]++
			if e != want {
				t.Fatalf("%+v at %+v: %d, want %d", r, p, e, want)
			}
			if e != api.OK {
				if !isZero(q) {
					t.Fatalf("%+v at %+v: %+v beside an error", r, p, q)
				}
				return
			}
			if !Same(q, after(p, r)) || Check(q) != api.OK {
				t.Fatalf("%+v at %+v: %+v, want %+v", r, p, q, after(p, r))
			}
		})
	}
	for kind := api.RSend; kind <= api.RTick; kind++ {
		if seen[[2]int{kind, int(api.OK)}] < 100 {
			t.Errorf("kind %d came about %d times only", kind, seen[[2]int{kind, int(api.OK)}])
		}
	}
}

// P9.3: Replay is one Next behind the other, of each beginning of a log.
func TestReplayOfWalks(t *testing.T) {
	for seed := range int64(60) {
		var places []api.Place
		log := walk(t, seed, 300, func(p, q api.Place, r api.Rec, e api.Errno) {
			if len(places) == 0 {
				places = append(places, p)
			}
			if e == api.OK {
				places = append(places, q)
			}
		})
		for n, want := range places {
			p, e := Replay(want.Me, log[:n])
			if n > api.MaxLog {
				if e != api.ErrMany || !isZero(p) {
					t.Fatalf("%d records: %d, want ErrMany", n, e)
				}
				continue
			}
			if e != api.OK || !Same(p, want) {
				t.Fatalf("seed %d, %d records: %+v, %d, want %+v", seed, n, p, e, want)
			}
		}
	}
}

// P9.4: what is delivered is never delivered again, nor what is too late, and never another cargo.
func TestDeliveredOnce(t *testing.T) {
	count := 0
	for seed := range int64(300) {
		delivered := map[api.Head]int{}
		walk(t, seed, 300, func(p, q api.Place, r api.Rec, e api.Errno) {
			if r.Kind != api.RDeliver || e != api.OK {
				return
			}
			count++
			delivered[r.H]++
			if delivered[r.H] > 1 || p.Time >= r.H.Till || r.H.To != p.Me || !bytes.Equal(r.Cargo, cargoOf(r.H)) {
				t.Fatalf("%+v, for the %dth time, at %+v", r, delivered[r.H], p)
			}
			// From now on until it is too late, whatever is heard, it stays delivered, and after that it doesn't come.
			for _, s := range []api.Rec{r, {Kind: api.RKeep, H: r.H, S: api.Symbol{ID: 8888, Data: make(api.Block, r.H.P.Block)}}, {Kind: api.RPurge, H: r.H}, {Kind: api.RTake, N: 1, Try: 9999, H: r.H}} {
				if _, e := Next(q, s); e != api.ErrLate {
					t.Fatalf("%+v, when it is delivered: %d", s, e)
				}
			}
			late, _ := Next(q, api.Rec{Kind: api.RTick, N: r.H.Till})
			if Find(late, r.H.From, r.H.Seq) >= 0 {
				t.Fatalf("%+v is there too late", r.H)
			}
			for _, s := range []api.Rec{{Kind: api.RKeep, H: r.H, S: api.Symbol{ID: 8888, Data: make(api.Block, r.H.P.Block)}}, {Kind: api.RPurge, H: r.H}, {Kind: api.RTake, N: 1, Try: 9999, H: r.H}} {
				if _, e := Next(late, s); e != api.ErrLate {
					t.Fatalf("%+v, when it is too late: %d", s, e)
				}
			}
			if _, e := Next(late, r); e != api.ErrWho {
				t.Fatalf("%+v, when it is gone: %d", r, e)
			}
		})
	}
	if count < 100 {
		t.Errorf("delivered %d times only", count)
	}
}

// P9.4: what a bundle has, gives and gave is what it was sent with and took, each by its place and try once.
func TestSharesComeOfSomething(t *testing.T) {
	gave := 0
	for seed := range int64(300) {
		came, went := map[api.Head]int{}, map[api.Head]int{}
		took := map[api.Head]map[api.Taken]int{}
		walk(t, seed, 300, func(p, q api.Place, r api.Rec, e api.Errno) {
			if e != api.OK {
				return
			}
			switch r.Kind {
			case api.RSend:
				came[r.H] += r.N
			case api.RTake:
				came[r.H] += r.N
				if took[r.H] == nil {
					took[r.H] = map[api.Taken]int{}
				}
				took[r.H][api.Taken{Place: r.Place, Try: r.Try}]++
				if took[r.H][api.Taken{Place: r.Place, Try: r.Try}] > 1 {
					t.Fatalf("%+v is taken twice", r)
				}
			case api.RGiven:
				gave++
				went[r.H] += p.Keep[Find(p, r.H.From, r.H.Seq)].Giving
			}
			for _, k := range q.Keep {
				has := k.Shares + k.Giving
				if isDone := k.Delivered || k.Purged; !isDone && has+went[k.H] != came[k.H] || isDone && has != 0 {
					t.Fatalf("%+v: %d came, %d went, it has %d", k, came[k.H], went[k.H], has)
				}
			}
		})
	}
	if gave < 100 {
		t.Errorf("given %d times only", gave)
	}
}
