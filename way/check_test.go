package way

import (
	"fmt"
	"math"
	"math/rand"
	"slices"
	"testing"

	"bottlepost/api"
	"bottlepost/code"
	"bottlepost/note"
)

// plan: three blocks of two bytes.
var plan = api.Plan{Bytes: 5, Block: 2}

func head() api.Head { return api.Head{From: 1, Seq: 3, To: 2, Till: 50, P: plan} }

func symbol(id int, data ...byte) api.Symbol { return api.Symbol{ID: id, Data: data} }

// Where in sample the frames of each kind stand.
const (
	atSymbol  = 0
	atShare   = 1
	atGot     = 2
	atReceipt = 3
)

// sample answers a mail of each kind; its memory is new.
func sample() []api.Mail {
	return []api.Mail{
		{From: 1, To: 2, F: api.Frame{Kind: api.FSymbol, H: head(), S: symbol(7, 4, 2)}},
		{From: 1, To: 3, F: api.Frame{Kind: api.FShare, H: head(), N: 4, Try: 6}},
		{From: 3, To: 1, F: api.Frame{Kind: api.FGot, H: head(), N: 4, Try: 6}},
		{From: 2, To: 0, F: api.Frame{Kind: api.FReceipt, H: head()}},
	}
}

// crowd answers so many mails, which all differ.
func crowd(n int) []api.Mail {
	var l []api.Mail
	for i := range n {
		m := sample()[i%4]
		m.F.H.Seq = i / 4
		l = append(l, m)
	}
	return l
}

func changed(m api.Mail, changes ...func(m *api.Mail)) api.Mail {
	for _, f := range changes {
		f(&m)
	}
	return m
}

// isZero says whether nothing is there, not even an empty list.
func isZero(m api.Mail) bool {
	s := m.F.S
	m.F.S = api.Symbol{}
	return Same([]api.Mail{m}, []api.Mail{{}}) && s.ID == 0 && s.Data == nil
}

// P10.1: what may be, up to the edges.
func TestCheckTakes(t *testing.T) {
	for _, c := range []struct {
		name string
		at   int
		f    func(m *api.Mail)
	}{
		{"from the first place", atReceipt, func(m *api.Mail) { m.From = 0 }},
		{"from the last place", atReceipt, func(m *api.Mail) { m.From = 3 }},
		{"to the first place", atSymbol, func(m *api.Mail) { m.To = 0 }},
		{"to the last place", atSymbol, func(m *api.Mail) { m.To = 3 }},
		{"to the place from which it comes", atShare, func(m *api.Mail) { m.To = m.From }},
		{"between places that the bundle doesn't name", atSymbol, func(m *api.Mail) { m.From, m.To = 0, 3 }},
		{"the last head", atReceipt, func(m *api.Mail) {
			m.F.H = api.Head{From: 3, Seq: 49, To: 0, Till: 1000000, P: api.Plan{Bytes: 360, Block: 15}}
		}},
		{"the first head", atReceipt, func(m *api.Mail) {
			m.F.H = api.Head{To: 1, Till: 1, P: api.Plan{Bytes: 1, Block: 1}}
		}},
		{"a share", atShare, func(m *api.Mail) { m.F.N, m.F.Try = 1, 1 }},
		{"all shares", atShare, func(m *api.Mail) { m.F.N, m.F.Try = 64, 9999 }},
		{"a share was taken", atGot, func(m *api.Mail) { m.F.N, m.F.Try = 1, 1 }},
		{"all shares were taken", atGot, func(m *api.Mail) { m.F.N, m.F.Try = 64, 9999 }},
		{"the first symbol", atSymbol, func(m *api.Mail) { m.F.S = symbol(0, 0, 0) }},
		{"the last symbol", atSymbol, func(m *api.Mail) { m.F.S = symbol(9999, 255, 255) }},
		{"an empty list and no symbol, of shares", atShare, func(m *api.Mail) { m.F.S.Data = api.Block{} }},
		{"an empty list and no symbol, of shares that were taken", atGot, func(m *api.Mail) { m.F.S.Data = api.Block{} }},
		{"an empty list and no symbol, of a receipt", atReceipt, func(m *api.Mail) { m.F.S.Data = api.Block{} }},
	} {
		if e := Check([]api.Mail{changed(sample()[c.at], c.f)}); e != api.OK {
			t.Errorf("%s: %d, want OK", c.name, e)
		}
	}
	same := sample()[atShare]
	for name, l := range map[string][]api.Mail{
		"nothing":               nil,
		"an empty list":         {},
		"one of each kind":      sample(),
		"one alike":             {same, same, same},
		"as much as may be":     crowd(api.MaxMail),
		"one less":              crowd(api.MaxMail - 1),
		"spare room is no mail": crowd(api.MaxMail + 5)[:api.MaxMail],
	} {
		if e := Check(l); e != api.OK {
			t.Errorf("%s: %d, want OK", name, e)
		}
	}
}

// wrong is something that Check refuses.
type wrong struct {
	name string
	f    func(m *api.Mail)
	want api.Errno
}

// wrongMail: what is wrong with a mail of any kind, in the order in which it is told.
var wrongMail = [][]wrong{
	{
		{"From -1", func(m *api.Mail) { m.From = -1 }, api.ErrRange},
		{"From 4", func(m *api.Mail) { m.From = 4 }, api.ErrRange},
		{"From least", func(m *api.Mail) { m.From = math.MinInt }, api.ErrRange},
		{"From most", func(m *api.Mail) { m.From = math.MaxInt }, api.ErrRange},
		{"To -1", func(m *api.Mail) { m.To = -1 }, api.ErrRange},
		{"To 4", func(m *api.Mail) { m.To = 4 }, api.ErrRange},
		{"To least", func(m *api.Mail) { m.To = math.MinInt }, api.ErrRange},
		{"To most", func(m *api.Mail) { m.To = math.MaxInt }, api.ErrRange},
	},
	{
		{"Kind 0", func(m *api.Mail) { m.F.Kind = 0 }, api.ErrForm},
		{"Kind 5", func(m *api.Mail) { m.F.Kind = 5 }, api.ErrForm},
		{"Kind -1", func(m *api.Mail) { m.F.Kind = -1 }, api.ErrForm},
		{"Kind least", func(m *api.Mail) { m.F.Kind = math.MinInt }, api.ErrForm},
		{"Kind most", func(m *api.Mail) { m.F.Kind = math.MaxInt }, api.ErrForm},
	},
	{
		{"no head", func(m *api.Mail) { m.F.H = api.Head{} }, api.ErrRange},
		{"head's From 4", func(m *api.Mail) { m.F.H.From = 4 }, api.ErrRange},
		{"head's To -1", func(m *api.Mail) { m.F.H.To = -1 }, api.ErrRange},
		{"Seq 50", func(m *api.Mail) { m.F.H.Seq = 50 }, api.ErrRange},
		{"Till 0", func(m *api.Mail) { m.F.H.Till = 0 }, api.ErrRange},
		{"Till 1000001", func(m *api.Mail) { m.F.H.Till = 1000001 }, api.ErrRange},
		{"a bundle to itself", func(m *api.Mail) { m.F.H.To = m.F.H.From }, api.ErrWho},
		{"Block 0", func(m *api.Mail) { m.F.H.P.Block = 0 }, api.ErrRange},
		{"Bytes 361", func(m *api.Mail) { m.F.H.P = api.Plan{Bytes: 361, Block: 16} }, api.ErrRange},
		{"25 blocks", func(m *api.Mail) { m.F.H.P = api.Plan{Bytes: 25, Block: 1} }, api.ErrMany},
	},
}

// wrongShares: what is wrong with a frame that must tell of shares.
var wrongShares = []wrong{
	{"N 0", func(m *api.Mail) { m.F.N = 0 }, api.ErrRange},
	{"N -1", func(m *api.Mail) { m.F.N = -1 }, api.ErrRange},
	{"N 65", func(m *api.Mail) { m.F.N = 65 }, api.ErrRange},
	{"N least", func(m *api.Mail) { m.F.N = math.MinInt }, api.ErrRange},
	{"N most", func(m *api.Mail) { m.F.N = math.MaxInt }, api.ErrRange},
	{"Try 0", func(m *api.Mail) { m.F.Try = 0 }, api.ErrRange},
	{"Try -1", func(m *api.Mail) { m.F.Try = -1 }, api.ErrRange},
	{"Try 10000", func(m *api.Mail) { m.F.Try = 10000 }, api.ErrRange},
	{"N and Try 0", func(m *api.Mail) { m.F.N, m.F.Try = 0, 0 }, api.ErrRange},
}

// needlessShares: what is wrong with a frame that may tell of none.
var needlessShares = []wrong{
	{"N 1", func(m *api.Mail) { m.F.N = 1 }, api.ErrForm},
	{"N -1", func(m *api.Mail) { m.F.N = -1 }, api.ErrForm},
	{"N 65", func(m *api.Mail) { m.F.N = 65 }, api.ErrForm},
	{"Try 1", func(m *api.Mail) { m.F.Try = 1 }, api.ErrForm},
	{"Try -1", func(m *api.Mail) { m.F.Try = -1 }, api.ErrForm},
	{"Try 10000", func(m *api.Mail) { m.F.Try = 10000 }, api.ErrForm},
	{"N and Try 1", func(m *api.Mail) { m.F.N, m.F.Try = 1, 1 }, api.ErrForm},
}

// wrongSymbol: what is wrong with a frame that must have a symbol.
var wrongSymbol = []wrong{
	{"no symbol", func(m *api.Mail) { m.F.S = api.Symbol{} }, api.ErrForm},
	{"ID -1", func(m *api.Mail) { m.F.S.ID = -1 }, api.ErrRange},
	{"ID 10000", func(m *api.Mail) { m.F.S.ID = 10000 }, api.ErrRange},
	{"no data", func(m *api.Mail) { m.F.S.Data = nil }, api.ErrForm},
	{"a byte too few", func(m *api.Mail) { m.F.S.Data = api.Block{1} }, api.ErrForm},
	{"a byte too many", func(m *api.Mail) { m.F.S.Data = api.Block{1, 2, 3} }, api.ErrForm},
	{"ID 10000 without data", func(m *api.Mail) { m.F.S = symbol(10000) }, api.ErrRange},
}

// needlessSymbol: what is wrong with a frame that may have none.
var needlessSymbol = []wrong{
	{"a symbol", func(m *api.Mail) { m.F.S = symbol(7, 4, 2) }, api.ErrForm},
	{"ID 1", func(m *api.Mail) { m.F.S.ID = 1 }, api.ErrForm},
	{"ID -1", func(m *api.Mail) { m.F.S.ID = -1 }, api.ErrForm},
	{"ID 10000", func(m *api.Mail) { m.F.S.ID = 10000 }, api.ErrForm},
	{"data", func(m *api.Mail) { m.F.S.Data = api.Block{4, 2} }, api.ErrForm},
	{"a nought of data", func(m *api.Mail) { m.F.S.Data = api.Block{0} }, api.ErrForm},
}

// wrongAt answers what is wrong with a mail of sample, in the order in which it is told.
func wrongAt(at int) [][]wrong {
	switch at {
	case atSymbol:
		return slices.Concat(wrongMail, [][]wrong{needlessShares, wrongSymbol})
	case atReceipt:
		return slices.Concat(wrongMail, [][]wrong{needlessShares, needlessSymbol})
	}
	return slices.Concat(wrongMail, [][]wrong{wrongShares, needlessSymbol})
}

// refused says that all calls answer this of a list, and nothing beside.
func refused(t *testing.T, name string, l []api.Mail, want api.Errno) {
	t.Helper()
	if e := Check(l); e != want {
		t.Errorf("%s: %d, want %d", name, e, want)
	}
	for _, m := range []api.Mail{sample()[atSymbol], {}, {From: 4}} {
		if x, e := Send(l, m); e != want || x != nil {
			t.Errorf("%s: sent %+v, %d, want %d", name, x, e, want)
		}
	}
	for _, k := range []int{0, len(l) - 1, -1, len(l)} {
		for _, twice := range []bool{false, true} {
			if x, m, e := Take(l, k, twice); e != want || x != nil || !isZero(m) {
				t.Errorf("%s: took %+v, %+v, %d, want %d", name, x, m, e, want)
			}
		}
	}
}

// P10.1: each thing that may not be, alone, wherever it stands; the other calls say it first.
func TestCheckRefuses(t *testing.T) {
	for at := range sample() {
		for _, c := range slices.Concat(wrongAt(at)...) {
			bad := changed(sample()[at], c.f)
			for n := range 3 {
				l := slices.Insert(crowd(2), n, bad)
				refused(t, fmt.Sprintf("kind %d, %s, as %d", at+1, c.name, n), l, c.want)
			}
			refused(t, fmt.Sprintf("kind %d, %s, as the last one", at+1, c.name), append(crowd(39), bad), c.want)
			// What is alone is refused by Send, too.
			for _, l := range [][]api.Mail{nil, sample(), crowd(39), crowd(40)} {
				if x, e := Send(l, bad); e != c.want || x != nil {
					t.Errorf("kind %d, %s behind %d: sent %+v, %d, want %d", at+1, c.name, len(l), x, e, c.want)
				}
			}
		}
	}
}

// P10.1, P3: of two things that are wrong, the one that is told first.
func TestCheckOrder(t *testing.T) {
	for at := range sample() {
		steps := wrongAt(at)
		for i, step := range steps {
			for _, first := range step {
				for _, second := range slices.Concat(steps[i+1:]...) {
					// What is told first is done last, so that the other one can't mend it.
					m := changed(sample()[at], second.f, first.f)
					if e := Check([]api.Mail{m}); e != first.want {
						t.Errorf("kind %d, %s, %s: %d, want %d", at+1, first.name, second.name, e, first.want)
					}
				}
			}
		}
	}
}

// P10.1, P3: of two mails that are wrong, what is told of the one that stands ahead, whatever it is.
func TestCheckOneByOne(t *testing.T) {
	for at := range sample() {
		for _, first := range slices.Concat(wrongAt(at)...) {
			for _, second := range slices.Concat(wrongAt(atSymbol)...) {
				l := []api.Mail{sample()[atGot], changed(sample()[at], first.f), changed(sample()[atSymbol], second.f)}
				if e := Check(l); e != first.want {
					t.Errorf("kind %d, %s ahead of %s: %d, want %d", at+1, first.name, second.name, e, first.want)
				}
			}
		}
	}
}

// P10.1: one too many is told ahead of all that is wrong with any of them.
func TestCheckTooMany(t *testing.T) {
	for _, n := range []int{41, 42, 1000} {
		refused(t, fmt.Sprint(n), crowd(41)[:41], api.ErrMany)
		l := slices.Repeat(sample()[atReceipt:], n)
		refused(t, fmt.Sprint(n, " alike"), l, api.ErrMany)
		l[0].From = -1
		refused(t, fmt.Sprint(n, ", the first one wrong"), l, api.ErrMany)
		refused(t, fmt.Sprint(n, ", all of them nothing"), make([]api.Mail, n), api.ErrMany)
	}
}

// fields: a change of each field, be what comes of it right or not.
var fields = map[string]func(l []api.Mail){
	"nothing":      func(l []api.Mail) {},
	"From":         func(l []api.Mail) { l[atSymbol].From++ },
	"To":           func(l []api.Mail) { l[atSymbol].To++ },
	"From for To":  func(l []api.Mail) { l[atSymbol].From, l[atSymbol].To = 2, 1 },
	"Kind":         func(l []api.Mail) { l[atSymbol].F.Kind = 99 },
	"head's From":  func(l []api.Mail) { l[atSymbol].F.H.From++ },
	"Seq":          func(l []api.Mail) { l[atSymbol].F.H.Seq++ },
	"head's To":    func(l []api.Mail) { l[atSymbol].F.H.To++ },
	"Till":         func(l []api.Mail) { l[atSymbol].F.H.Till++ },
	"Bytes":        func(l []api.Mail) { l[atSymbol].F.H.P.Bytes++ },
	"Block":        func(l []api.Mail) { l[atSymbol].F.H.P.Block++ },
	"ID":           func(l []api.Mail) { l[atSymbol].F.S.ID++ },
	"Data":         func(l []api.Mail) { l[atSymbol].F.S.Data[1]++ },
	"a byte less":  func(l []api.Mail) { l[atSymbol].F.S.Data = l[atSymbol].F.S.Data[:1] },
	"no Data":      func(l []api.Mail) { l[atSymbol].F.S.Data = nil },
	"N":            func(l []api.Mail) { l[atShare].F.N++ },
	"Try":          func(l []api.Mail) { l[atShare].F.Try++ },
	"N for Try":    func(l []api.Mail) { l[atShare].F.N, l[atShare].F.Try = 6, 4 },
	"share for it": func(l []api.Mail) { l[atGot].F.Kind = api.FShare },
	"order":        func(l []api.Mail) { slices.Reverse(l) },
	"the last one": func(l []api.Mail) { l[atReceipt].To = -1 },
}

// P10.1: every field counts, whatever it is, and where it stands.
func TestSame(t *testing.T) {
	for a, f := range fields {
		for b, g := range fields {
			x, y := sample(), sample()
			f(x)
			g(y)
			if Same(x, y) != (a == b) {
				t.Errorf("%s, %s: the same isn't %v", a, b, a == b)
			}
		}
	}
	for i := range 50 {
		for j := range 50 {
			if Same(crowd(i), crowd(j)) != (i == j) {
				t.Errorf("%d mails, %d mails: the same isn't %v", i, j, i == j)
			}
		}
	}
	none, empty := []api.Mail{{}}, []api.Mail{{F: api.Frame{S: api.Symbol{Data: api.Block{}}}}}
	if !Same(none, empty) || !Same(empty, none) || !Same(nil, []api.Mail{}) || !Same([]api.Mail{}, nil) {
		t.Error("an empty list isn't like none")
	}
	if Same(none, nil) || Same(nil, none) {
		t.Error("a mail of noughts is like none")
	}
}

// checked is Check's rule written out word by word, apart from the program.
func checked(l []api.Mail) api.Errno {
	if len(l) > 40 {
		return api.ErrMany
	}
	for _, m := range l {
		if m.From < 0 || m.From > 3 || m.To < 0 || m.To > 3 {
			return api.ErrRange
		}
		shares, ok := map[int]bool{api.FSymbol: false, api.FShare: true, api.FGot: true, api.FReceipt: false}[m.F.Kind]
		if !ok {
			return api.ErrForm
		}
		if e := note.Head(m.F.H); e != api.OK {
			return e
		}
		if shares && (m.F.N < 1 || m.F.N > 64 || m.F.Try < 1 || m.F.Try > 9999) {
			return api.ErrRange
		}
		if !shares && (m.F.N != 0 || m.F.Try != 0) {
			return api.ErrForm
		}
		if m.F.Kind == api.FSymbol {
			if e := code.Check(m.F.H.P, m.F.S); e != api.OK {
				return e
			}
		} else if m.F.S.ID != 0 || len(m.F.S.Data) != 0 {
			return api.ErrForm
		}
	}
	return api.OK
}

// some answers a mail of any kind, nearly always right.
func some(rnd *rand.Rand) api.Mail {
	at := rnd.Intn(4)
	m := sample()[at]
	m.From, m.To = rnd.Intn(4), rnd.Intn(4)
	m.F.H.Seq, m.F.H.Till = rnd.Intn(50), 1+rnd.Intn(1000000)
	switch at {
	case atSymbol:
		m.F.S = symbol(rnd.Intn(10000), byte(rnd.Intn(256)), byte(rnd.Intn(256)))
	case atShare, atGot:
		m.F.N, m.F.Try = 1+rnd.Intn(64), 1+rnd.Intn(9999)
	}
	if rnd.Intn(60) == 0 {
		list := slices.Concat(wrongAt(rnd.Intn(4))...)
		list[rnd.Intn(len(list))].f(&m)
	}
	return m
}

// someMail answers a list, mostly one that has room yet.
func someMail(rnd *rand.Rand) []api.Mail {
	var l []api.Mail
	for range rnd.Intn(43) {
		l = append(l, some(rnd))
	}
	return l
}

// P10.1 on random mail, against the rules written out apart.
func TestCheckByRules(t *testing.T) {
	rnd := rand.New(rand.NewSource(10))
	seen := map[api.Errno]int{}
	for range 10000 {
		l := someMail(rnd)
		want := checked(l)
		seen[want]++
		if e := Check(l); e != want {
			t.Fatalf("%+v: %d, want %d", l, e, want)
		}
	}
	for _, e := range []api.Errno{api.OK, api.ErrMany, api.ErrRange, api.ErrForm, api.ErrWho} {
		if seen[e] < 20 {
			t.Errorf("too few lists of %d: %v", e, seen)
		}
	}
}
