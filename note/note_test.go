package note

import (
	"bytes"
	"fmt"
	"math"
	"math/rand"
	"reflect"
	"regexp"
	"slices"
	"strconv"
	"strings"
	"testing"

	"bottlepost/api"
	"bottlepost/code"
	"bottlepost/cut"
)

// kinds lists all kinds of records that there are.
var kinds = []int{api.RSend, api.RKeep, api.RDeliver, api.RGive, api.RGiven, api.RTake, api.RPurge, api.RTick}

// uses tells what a kind has use for, as the document writes it.
var uses = map[int]string{
	api.RSend:    "N, H, Cargo",
	api.RKeep:    "H, S",
	api.RDeliver: "H, Cargo",
	api.RGive:    "Place, N, Try, H",
	api.RTake:    "Place, N, Try, H",
	api.RGiven:   "Try, H",
	api.RPurge:   "H",
	api.RTick:    "N",
}

func used(kind int, field string) bool {
	return slices.Contains(strings.Split(uses[kind], ", "), field)
}

func head() api.Head {
	return api.Head{From: 1, Seq: 3, To: 2, Till: 50, P: api.Plan{Bytes: 5, Block: 2}}
}

// good answers a record of the kind that Check takes; nothing that it has use for is zero.
func good(kind int) api.Rec {
	r := api.Rec{Kind: kind}
	if used(kind, "Place") {
		r.Place = 3
	}
	if used(kind, "N") {
		r.N = 4
	}
	if used(kind, "Try") {
		r.Try = 6
	}
	if used(kind, "H") {
		r.H = head()
	}
	if used(kind, "S") {
		r.S = api.Symbol{ID: 7, Data: api.Block{10, 255}}
	}
	if used(kind, "Cargo") {
		r.Cargo = []byte{0, 1, 16, 171, 205}
	}
	return r
}

// change answers a record as it is after f; the lists of the one that is given aren't touched by replacing them.
func change(r api.Rec, f func(r *api.Rec)) api.Rec {
	f(&r)
	return r
}

// texts: each kind, written out by hand.
var texts = []struct {
	kind int
	text string
}{
	{api.RSend, "1 0 4 0 1 3 2 50 5 2 0 - -000110abcd"},
	{api.RKeep, "2 0 0 0 1 3 2 50 5 2 7 -0aff -"},
	{api.RDeliver, "3 0 0 0 1 3 2 50 5 2 0 - -000110abcd"},
	{api.RGive, "4 3 4 6 1 3 2 50 5 2 0 - -"},
	{api.RGiven, "5 0 0 6 1 3 2 50 5 2 0 - -"},
	{api.RTake, "6 3 4 6 1 3 2 50 5 2 0 - -"},
	{api.RPurge, "7 0 0 0 1 3 2 50 5 2 0 - -"},
	{api.RTick, "8 0 4 0 0 0 0 0 0 0 0 - -"},
}

// P7.1: the edges of a head, one field at a time.
func TestHead(t *testing.T) {
	cases := []struct {
		name string
		f    func(h *api.Head)
		want api.Errno
	}{
		{"as it is", func(h *api.Head) {}, api.OK},
		{"From 0", func(h *api.Head) { h.From = 0 }, api.OK},
		{"From 3", func(h *api.Head) { h.From = 3 }, api.OK},
		{"From -1", func(h *api.Head) { h.From = -1 }, api.ErrRange},
		{"From 4", func(h *api.Head) { h.From = 4 }, api.ErrRange},
		{"From least", func(h *api.Head) { h.From = math.MinInt }, api.ErrRange},
		{"From most", func(h *api.Head) { h.From = math.MaxInt }, api.ErrRange},
		{"To 0", func(h *api.Head) { h.To = 0 }, api.OK},
		{"To 3", func(h *api.Head) { h.To = 3 }, api.OK},
		{"To -1", func(h *api.Head) { h.To = -1 }, api.ErrRange},
		{"To 4", func(h *api.Head) { h.To = 4 }, api.ErrRange},
		{"Seq 0", func(h *api.Head) { h.Seq = 0 }, api.OK},
		{"Seq 49", func(h *api.Head) { h.Seq = 49 }, api.OK},
		{"Seq -1", func(h *api.Head) { h.Seq = -1 }, api.ErrRange},
		{"Seq 50", func(h *api.Head) { h.Seq = 50 }, api.ErrRange},
		{"Till 1", func(h *api.Head) { h.Till = 1 }, api.OK},
		{"Till 1000000", func(h *api.Head) { h.Till = 1000000 }, api.OK},
		{"Till 0", func(h *api.Head) { h.Till = 0 }, api.ErrRange},
		{"Till -1", func(h *api.Head) { h.Till = -1 }, api.ErrRange},
		{"Till 1000001", func(h *api.Head) { h.Till = 1000001 }, api.ErrRange},
		{"From is To", func(h *api.Head) { h.To = h.From }, api.ErrWho},
		{"Bytes 0", func(h *api.Head) { h.P.Bytes = 0 }, api.ErrRange},
		{"Bytes 361", func(h *api.Head) { h.P = api.Plan{Bytes: 361, Block: 16} }, api.ErrRange},
		{"Bytes 360", func(h *api.Head) { h.P = api.Plan{Bytes: 360, Block: 15} }, api.OK},
		{"Block 0", func(h *api.Head) { h.P.Block = 0 }, api.ErrRange},
		{"Block 17", func(h *api.Head) { h.P.Block = 17 }, api.ErrRange},
		{"24 blocks", func(h *api.Head) { h.P = api.Plan{Bytes: 24, Block: 1} }, api.OK},
		{"25 blocks", func(h *api.Head) { h.P = api.Plan{Bytes: 25, Block: 1} }, api.ErrMany},
		// Several are wrong: the one that is told first.
		{"range ahead of who", func(h *api.Head) { h.From, h.To = 9, 9 }, api.ErrRange},
		{"late range ahead of who", func(h *api.Head) { h.To, h.Till = h.From, 0 }, api.ErrRange},
		{"range ahead of the plan", func(h *api.Head) { h.Seq, h.P = -1, api.Plan{Bytes: 25, Block: 1} }, api.ErrRange},
		{"who ahead of the plan", func(h *api.Head) { h.To, h.P = h.From, api.Plan{} }, api.ErrWho},
		{"nothing", func(h *api.Head) { *h = api.Head{} }, api.ErrRange},
	}
	for _, c := range cases {
		h := head()
		c.f(&h)
		if e := Head(h); e != c.want {
			t.Errorf("%s: %d, want %d", c.name, e, c.want)
		}
		// A record of any kind that uses the head is refused by the same error.
		if e := Check(api.Rec{Kind: api.RPurge, H: h}); e != c.want {
			t.Errorf("%s in a record: %d, want %d", c.name, e, c.want)
		}
	}
}

// P7.1: every kind, with the least and the most that it may have.
func TestCheckTakes(t *testing.T) {
	for _, kind := range kinds {
		list := []api.Rec{good(kind)}
		if used(kind, "Place") {
			list = append(list, change(good(kind), func(r *api.Rec) { r.Place = 0 }))
			// A place may give to itself here: who it is, a record doesn't say.
			list = append(list, change(good(kind), func(r *api.Rec) { r.Place = r.H.From }))
		}
		if used(kind, "N") {
			list = append(list, change(good(kind), func(r *api.Rec) { r.N = 0 }))
			list = append(list, change(good(kind), func(r *api.Rec) { r.N = 1000000 }))
		}
		if used(kind, "Try") {
			list = append(list, change(good(kind), func(r *api.Rec) { r.Try = 0 }))
			list = append(list, change(good(kind), func(r *api.Rec) { r.Try = 9999 }))
		}
		if used(kind, "S") {
			list = append(list, change(good(kind), func(r *api.Rec) { r.S.ID = 0 }))
			list = append(list, change(good(kind), func(r *api.Rec) { r.S.ID = 9999 }))
			list = append(list, change(good(kind), func(r *api.Rec) { r.S.Data = make(api.Block, 2) }))
		} else {
			list = append(list, change(good(kind), func(r *api.Rec) { r.S.Data = api.Block{} }))
		}
		if used(kind, "Cargo") {
			list = append(list, change(good(kind), func(r *api.Rec) {
				r.H.P, r.Cargo = api.Plan{Bytes: 360, Block: 15}, make([]byte, 360)
			}))
		} else {
			list = append(list, change(good(kind), func(r *api.Rec) { r.Cargo = []byte{} }))
		}
		for _, r := range list {
			if e := Check(r); e != api.OK {
				t.Errorf("%+v: %d, want OK", r, e)
			}
		}
	}
}

// P7.1: a kind that is none, whatever else is there.
func TestCheckRefusesKinds(t *testing.T) {
	for _, kind := range []int{0, -1, 9, 10, 256 + api.RTick, math.MinInt, math.MaxInt} {
		for _, r := range []api.Rec{{}, good(api.RTick), good(api.RKeep), {Place: -1, N: -1, Try: -1}} {
			r.Kind = kind
			if e := Check(r); e != api.ErrForm {
				t.Errorf("%+v: %d, want ErrForm", r, e)
			}
		}
	}
}

// fillers: each of them gives a record one thing, in every part of it that isn't zero when it is there.
var fillers = []struct {
	field, name string
	f           func(r *api.Rec)
}{
	{"Place", "Place", func(r *api.Rec) { r.Place = 1 }},
	{"Place", "Place below 0", func(r *api.Rec) { r.Place = -1 }},
	{"N", "N", func(r *api.Rec) { r.N = 1 }},
	{"N", "N below 0", func(r *api.Rec) { r.N = -1 }},
	{"Try", "Try", func(r *api.Rec) { r.Try = 1 }},
	{"Try", "Try below 0", func(r *api.Rec) { r.Try = -1 }},
	{"H", "From", func(r *api.Rec) { r.H.From = 1 }},
	{"H", "Seq", func(r *api.Rec) { r.H.Seq = 1 }},
	{"H", "To", func(r *api.Rec) { r.H.To = 1 }},
	{"H", "Till", func(r *api.Rec) { r.H.Till = 1 }},
	{"H", "Bytes", func(r *api.Rec) { r.H.P.Bytes = 1 }},
	{"H", "Block", func(r *api.Rec) { r.H.P.Block = 1 }},
	{"H", "a good head", func(r *api.Rec) { r.H = head() }},
	{"S", "ID", func(r *api.Rec) { r.S.ID = 1 }},
	{"S", "ID below 0", func(r *api.Rec) { r.S.ID = -1 }},
	{"S", "Data", func(r *api.Rec) { r.S.Data = api.Block{0, 0} }},
	{"Cargo", "Cargo", func(r *api.Rec) { r.Cargo = []byte{0} }},
	{"Cargo", "a whole Cargo", func(r *api.Rec) { r.Cargo = make([]byte, 5) }},
}

// P7.1: what a kind has no use for must be zero; a list of noughts isn't.
func TestCheckRefusesNeedless(t *testing.T) {
	for _, kind := range kinds {
		for _, c := range fillers {
			if used(kind, c.field) {
				continue
			}
			r := change(good(kind), c.f)
			if e := Check(r); e != api.ErrForm {
				t.Errorf("kind %d, %s: %d, want ErrForm", kind, c.name, e)
			}
			// It is told ahead of whatever else is wrong.
			worse := change(change(api.Rec{Kind: kind, N: -1, Place: 9, Try: -1}, func(r *api.Rec) { r.H.To = 9 }), c.f)
			if e := Check(worse); e != api.ErrForm {
				t.Errorf("kind %d, %s, more is wrong: %d, want ErrForm", kind, c.name, e)
			}
		}
	}
}

// P7.1: values that may not be, and which error is told when several apply.
func TestCheckRefusesValues(t *testing.T) {
	badHead := func(r *api.Rec) { r.H.To = r.H.From }
	cases := []struct {
		name string
		r    api.Rec
		f    func(r *api.Rec)
		want api.Errno
	}{
		{"Place -1", good(api.RGive), func(r *api.Rec) { r.Place = -1 }, api.ErrRange},
		{"Place 4", good(api.RGive), func(r *api.Rec) { r.Place = 4 }, api.ErrRange},
		{"Place 4", good(api.RTake), func(r *api.Rec) { r.Place = 4 }, api.ErrRange},
		{"Try -1", good(api.RGive), func(r *api.Rec) { r.Try = -1 }, api.ErrRange},
		{"Try 10000", good(api.RGive), func(r *api.Rec) { r.Try = 10000 }, api.ErrRange},
		{"Try 10000", good(api.RGiven), func(r *api.Rec) { r.Try = 10000 }, api.ErrRange},
		{"N -1", good(api.RSend), func(r *api.Rec) { r.N = -1 }, api.ErrRange},
		{"N 1000001", good(api.RSend), func(r *api.Rec) { r.N = 1000001 }, api.ErrRange},
		{"N -1", good(api.RTick), func(r *api.Rec) { r.N = -1 }, api.ErrRange},
		{"N 1000001", good(api.RTick), func(r *api.Rec) { r.N = 1000001 }, api.ErrRange},
		{"N least", good(api.RTake), func(r *api.Rec) { r.N = math.MinInt }, api.ErrRange},
		{"range ahead of the head", good(api.RGive), func(r *api.Rec) { badHead(r); r.N = -1 }, api.ErrRange},
		{"the head", good(api.RGive), badHead, api.ErrWho},
		{"the head", good(api.RGiven), badHead, api.ErrWho},
		{"no head", api.Rec{Kind: api.RPurge}, func(r *api.Rec) {}, api.ErrRange},
		{"ID -1", good(api.RKeep), func(r *api.Rec) { r.S.ID = -1 }, api.ErrRange},
		{"ID 10000", good(api.RKeep), func(r *api.Rec) { r.S.ID = 10000 }, api.ErrRange},
		{"no Data", good(api.RKeep), func(r *api.Rec) { r.S.Data = nil }, api.ErrForm},
		{"short Data", good(api.RKeep), func(r *api.Rec) { r.S.Data = api.Block{1} }, api.ErrForm},
		{"long Data", good(api.RKeep), func(r *api.Rec) { r.S.Data = api.Block{1, 2, 3} }, api.ErrForm},
		{"ID ahead of Data", good(api.RKeep), func(r *api.Rec) { r.S = api.Symbol{ID: -1} }, api.ErrRange},
		{"the head ahead of the symbol", good(api.RKeep), func(r *api.Rec) { badHead(r); r.S.ID = -1 }, api.ErrWho},
		{"the plan ahead of the symbol", good(api.RKeep), func(r *api.Rec) { r.H.P, r.S.ID = api.Plan{Bytes: 25, Block: 1}, -1 }, api.ErrMany},
		{"no Cargo", good(api.RSend), func(r *api.Rec) { r.Cargo = nil }, api.ErrForm},
		{"short Cargo", good(api.RSend), func(r *api.Rec) { r.Cargo = r.Cargo[:4] }, api.ErrForm},
		{"long Cargo", good(api.RSend), func(r *api.Rec) { r.Cargo = make([]byte, 6) }, api.ErrForm},
		{"no Cargo", good(api.RDeliver), func(r *api.Rec) { r.Cargo = nil }, api.ErrForm},
		{"short Cargo", good(api.RDeliver), func(r *api.Rec) { r.Cargo = r.Cargo[:4] }, api.ErrForm},
		{"long Cargo", good(api.RDeliver), func(r *api.Rec) { r.Cargo = make([]byte, 6) }, api.ErrForm},
		{"the head ahead of Cargo", good(api.RDeliver), func(r *api.Rec) { badHead(r); r.Cargo = nil }, api.ErrWho},
		{"the plan ahead of Cargo", good(api.RSend), func(r *api.Rec) { r.H.P.Bytes, r.Cargo = 0, nil }, api.ErrRange},
		{"N ahead of Cargo", good(api.RSend), func(r *api.Rec) { r.N, r.Cargo = -1, nil }, api.ErrRange},
	}
	for _, c := range cases {
		r := change(c.r, c.f)
		if e := Check(r); e != c.want {
			t.Errorf("%s, kind %d: %d, want %d", c.name, r.Kind, e, c.want)
		}
		// Print refuses what Check refuses, and answers nothing beside.
		if s, e := Print(r); s != "" || e != c.want {
			t.Errorf("%s, kind %d: printed %q, %d, want %d", c.name, r.Kind, s, e, c.want)
		}
		// So does Parse of its text, that nobody has printed.
		if x, e := Parse(written(r)); e != c.want || !reflect.DeepEqual(x, api.Rec{}) {
			t.Errorf("%s, kind %d: parsed %+v, %d, want %d", c.name, r.Kind, x, e, c.want)
		}
	}
}

// written answers the text of a record, wrong or not, as the document says that it is written.
func written(r api.Rec) string {
	return fmt.Sprintf("%d %d %d %d %d %d %d %d %d %d %d -%x -%x", r.Kind, r.Place, r.N, r.Try,
		r.H.From, r.H.Seq, r.H.To, r.H.Till, r.H.P.Bytes, r.H.P.Block, r.S.ID, []byte(r.S.Data), r.Cargo)
}

// full answers a record that has all there is, so that every field can be made another one; Check refuses it.
func full() api.Rec {
	return api.Rec{Kind: 99, Place: -5, N: math.MinInt, Try: math.MaxInt, H: head(), S: api.Symbol{ID: -7, Data: api.Block{1, 2}}, Cargo: []byte{3, 4}}
}

// P7.1: every field counts, whatever it is.
func TestSame(t *testing.T) {
	if !Same(full(), full()) || !Same(api.Rec{}, api.Rec{}) {
		t.Error("a record isn't the same as itself")
	}
	cases := map[string]func(r *api.Rec){
		"Kind":       func(r *api.Rec) { r.Kind++ },
		"Place":      func(r *api.Rec) { r.Place++ },
		"N":          func(r *api.Rec) { r.N++ },
		"Try":        func(r *api.Rec) { r.Try-- },
		"From":       func(r *api.Rec) { r.H.From++ },
		"Seq":        func(r *api.Rec) { r.H.Seq++ },
		"To":         func(r *api.Rec) { r.H.To++ },
		"Till":       func(r *api.Rec) { r.H.Till++ },
		"Bytes":      func(r *api.Rec) { r.H.P.Bytes++ },
		"Block":      func(r *api.Rec) { r.H.P.Block++ },
		"ID":         func(r *api.Rec) { r.S.ID++ },
		"Data":       func(r *api.Rec) { r.S.Data = api.Block{1, 3} },
		"less Data":  func(r *api.Rec) { r.S.Data = api.Block{1} },
		"more Data":  func(r *api.Rec) { r.S.Data = api.Block{1, 2, 0} },
		"no Data":    func(r *api.Rec) { r.S.Data = nil },
		"Cargo":      func(r *api.Rec) { r.Cargo = []byte{5, 4} },
		"less Cargo": func(r *api.Rec) { r.Cargo = []byte{3} },
		"more Cargo": func(r *api.Rec) { r.Cargo = []byte{3, 4, 0} },
		"no Cargo":   func(r *api.Rec) { r.Cargo = nil },
	}
	for name, f := range cases {
		other := change(full(), f)
		if Same(full(), other) || Same(other, full()) {
			t.Errorf("%s is another one, and it is the same", name)
		}
	}
	if !Same(api.Rec{}, api.Rec{S: api.Symbol{Data: api.Block{}}, Cargo: []byte{}}) {
		t.Error("an empty list isn't like none")
	}
}

// P7.2: each kind's text.
func TestPrintAndParse(t *testing.T) {
	for _, c := range texts {
		r := good(c.kind)
		if s, e := Print(r); s != c.text || e != api.OK {
			t.Errorf("kind %d: printed %q, %d, want %q", c.kind, s, e, c.text)
		}
		if x, e := Parse(c.text); e != api.OK || !Same(x, r) {
			t.Errorf("%q: parsed %+v, %d, want %+v", c.text, x, e, r)
		}
	}
}

// P7.2: every byte has its two digits.
func TestBytes(t *testing.T) {
	cargo := make([]byte, 256)
	var want strings.Builder
	for i := range cargo {
		cargo[i] = byte(i)
		fmt.Fprintf(&want, "%02x", i)
	}
	r := api.Rec{Kind: api.RSend, N: 1, H: api.Head{To: 1, Till: 1, P: api.Plan{Bytes: 256, Block: 16}}, Cargo: cargo}
	text := "1 0 1 0 0 0 1 1 256 16 0 - -" + want.String()
	if s, e := Print(r); s != text || e != api.OK {
		t.Errorf("printed %q, %d, want %q", s, e, text)
	}
	if x, e := Parse(text); e != api.OK || !bytes.Equal(x.Cargo, cargo) {
		t.Errorf("parsed %v, %d", x.Cargo, e)
	}
}

// P7.2: texts that aren't written so, though much like it.
func TestParseRefusesTexts(t *testing.T) {
	keep := func(word, other string) string {
		text := "2 0 0 0 1 3 2 50 5 2 7 -0aff -"
		if !strings.Contains(text, word) {
			t.Fatalf("no %q in %q", word, text)
		}
		return strings.Replace(text, word, other, 1)
	}
	list := []string{
		"", " ", "-", "- -", "2", "\n", strings.Repeat(" ", 12), strings.Repeat("- ", 12) + "-",
		keep("2 ", ""), keep("2 ", "2  "), keep("2 ", " 2 "), keep("2 ", "2\t"), keep("2 ", "2,"),
		keep(" -0aff -", " -0aff"), keep(" -0aff -", " -0aff "), keep(" -0aff -", " -0aff  -"),
		keep(" -0aff -", " -0aff - "), keep(" -0aff -", " -0aff -\n"), keep(" -0aff -", " -0aff - -"), keep(" -0aff -", " -0aff - 0"),
		keep("50", "050"), keep("50", "+50"), keep("50", "-050"), keep("50", "--50"), keep("50", "5_0"), keep("50", "0x32"),
		keep("50", "50.0"), keep("50", "5e1"), keep("50", "fifty"), keep("50", "\u0665\u0660"), keep("50", "-"), keep("50", ""),
		keep("50", "9223372036854775808"), keep("50", "-9223372036854775809"), keep("50", strings.Repeat("9", 400)),
		keep("2 0", "2 -0"), keep("2 0", "2 +0"), keep("2 0", "2 00"),
		keep("-0aff", "0aff"), keep("-0aff", "-0AFF"), keep("-0aff", "-0afF"), keep("-0aff", "-0af"), keep("-0aff", "-0"),
		keep("-0aff", "-0ag"), keep("-0aff", "-g0"), keep("-0aff", "--0af"), keep("-0aff", "-0aff-"), keep("-0aff", "-0x0a"),
		keep("-0aff", "-0a/0"), keep("-0aff", "-0a:0"), keep("-0aff", "-0a`0"), keep("-0aff", "-0a0\x00"), keep("-0aff", "-0a\xff0"), keep("-0aff", ""),
		keep(" -0aff -", " -0aff 0"), keep(" -0aff -", " -0aff -0"), keep(" -0aff -", " -0aff --"), keep(" -0aff -", " -0aff +"),
		// What is wrong with the record comes later than what is wrong with the text.
		"9 0 0 0 0 0 0 0 0 0 0 - -0", "-1 -1 -1 -1 -1 -1 -1 -1 -1 -1 -1 - +",
	}
	for _, s := range list {
		if x, e := Parse(s); e != api.ErrText || !reflect.DeepEqual(x, api.Rec{}) {
			t.Errorf("%q: %+v, %d, want ErrText", s, x, e)
		}
	}
}

// P7.2: a text that is written so, of what is no record.
func TestParseRefusesRecords(t *testing.T) {
	for s, want := range map[string]api.Errno{
		"0 0 0 0 0 0 0 0 0 0 0 - -":                      api.ErrForm,
		"-2 0 0 0 1 3 2 50 5 2 7 -0aff -":                api.ErrForm,
		"2 0 0 0 1 3 2 50 5 2 7 -0aff -00":               api.ErrForm,
		"2 0 0 0 1 3 2 50 5 2 7 - -0aff":                 api.ErrForm,
		"2 0 0 0 1 3 2 50 5 2 7 -0a -":                   api.ErrForm,
		"2 0 0 0 1 3 2 50 5 2 -7 -0aff -":                api.ErrRange,
		"2 0 0 0 1 3 1 50 5 2 7 -0aff -":                 api.ErrWho,
		"2 0 0 0 1 3 2 50 25 1 7 -0a -":                  api.ErrMany,
		"8 0 -5 0 0 0 0 0 0 0 0 - -":                     api.ErrRange,
		"8 0 9223372036854775807 0 0 0 0 0 0 0 0 - -":    api.ErrRange,
		"8 0 -9223372036854775808 0 0 0 0 0 0 0 0 - -":   api.ErrRange,
		"8 0 5 0 0 0 0 0 0 0 0 -00 -":                    api.ErrForm,
		"1 0 8 0 1 3 2 50 5 2 0 - -000110ab":             api.ErrForm,
		"4 4 4 6 1 3 2 50 5 2 0 - -":                     api.ErrRange,
		"7 0 0 0 1 3 2 1000001 5 2 0 - -":                api.ErrRange,
		"3 0 0 0 1 50 2 50 5 2 0 - -000110abcd":          api.ErrRange,
		"6 -1 4 6 1 3 2 50 5 2 0 - -":                    api.ErrRange,
		"5 0 1 6 1 3 2 50 5 2 0 - -":                     api.ErrForm,
		"8 0 5 0 0 0 0 0 0 0 -1 - -":                     api.ErrForm,
		"8 0 5 0 0 0 0 -1 0 0 0 - -":                     api.ErrForm,
		"5 0 0 10000 1 3 2 50 5 2 0 - -":                 api.ErrRange,
		"7 0 0 0 9223372036854775807 3 2 50 5 2 0 - -":   api.ErrRange,
		"7 0 0 0 1 3 2 50 9223372036854775807 2 0 - -":   api.ErrRange,
		"7 0 0 0 1 3 2 50 5 -9223372036854775808 0 - -":  api.ErrRange,
		"7 0 0 0 1 3 2 50 5 2 -9223372036854775808 - -":  api.ErrForm,
		"7 0 0 0 1 3 2 50 5 2 0 - -" + digits(2*361):     api.ErrForm,
		"1 0 8 0 1 3 2 50 361 16 0 - -" + digits(2*361):  api.ErrRange,
		"2 0 0 0 1 3 2 50 17 17 0 -" + digits(34) + " -": api.ErrRange,
	} {
		if x, e := Parse(s); e != want || !reflect.DeepEqual(x, api.Rec{}) {
			t.Errorf("%q: %+v, %d, want %d", s, x, e, want)
		}
	}
}

func digits(n int) string { return strings.Repeat("0", n) }

// P7.2: the longest text that is looked at, and one byte more.
func TestParseLength(t *testing.T) {
	for _, c := range []struct {
		start string
		want  api.Errno
	}{
		{"1 0 8 0 1 3 2 50 5 2 0 - -", api.ErrForm},
		{"11 0 8 0 1 3 2 50 5 2 0 - -", api.ErrText}, // an odd digit
		{"", api.ErrText},
		{strings.Repeat(" ", 100), api.ErrText},
	} {
		for _, more := range []int{0, 1, 2, 1000} {
			want := c.want
			if more > 0 {
				want = api.ErrMany
			}
			s := c.start + digits(api.MaxText-len(c.start)+more)
			if x, e := Parse(s); e != want || !reflect.DeepEqual(x, api.Rec{}) {
				t.Errorf("%.30q.., %d bytes: %d, want %d", s, len(s), e, want)
			}
		}
	}
	for _, s := range []string{strings.Repeat(" ", api.MaxText), strings.Repeat("\xff", api.MaxText)} {
		if _, e := Parse(s); e != api.ErrText {
			t.Errorf("%.10q..: %d, want ErrText", s, e)
		}
	}
}

// rule: how a record is written, but for how great its numbers are.
var rule = regexp.MustCompile(`^(?:(?:0|-?[1-9][0-9]*) ){11}-(?:[0-9a-f]{2})* -(?:[0-9a-f]{2})*$`)

// isWritten says whether a text is written as the document says.
func isWritten(s string) bool {
	if !rule.MatchString(s) {
		return false
	}
	for _, w := range strings.Split(s, " ")[:11] {
		if _, err := strconv.ParseInt(w, 10, strconv.IntSize); err != nil {
			return false
		}
	}
	return true
}

// asked holds Parse against the rule, and against Print: what is taken is printed just so.
func asked(t *testing.T, s string) {
	t.Helper()
	r, e := Parse(s)
	if (e == api.ErrText) == isWritten(s) {
		t.Fatalf("%q: %d, and it is written so: %v", s, e, isWritten(s))
	}
	if e != api.OK {
		if !reflect.DeepEqual(r, api.Rec{}) {
			t.Fatalf("%q: %d, and %+v", s, e, r)
		}
		return
	}
	if again, e := Print(r); again != s || e != api.OK {
		t.Fatalf("%q: printed again %q, %d", s, again, e)
	}
}

// P7.2: every text that is one byte away from a good one.
func TestParseNearby(t *testing.T) {
	const bytesTried = "0129afgAF- +\n\x00\xff"
	for _, c := range texts {
		for i := range len(c.text) + 1 {
			for _, b := range []byte(bytesTried) {
				asked(t, c.text[:i]+string([]byte{b})+c.text[i:])
				if i < len(c.text) {
					asked(t, c.text[:i]+string([]byte{b})+c.text[i+1:])
				}
			}
			if i < len(c.text) {
				asked(t, c.text[:i]+c.text[i+1:])
			}
		}
	}
}

// checked is Check's rule written out word by word, apart from the program.
func checked(r api.Rec) api.Errno {
	list, ok := uses[r.Kind]
	if !ok {
		return api.ErrForm
	}
	there := map[string]bool{
		"Place": r.Place != 0, "N": r.N != 0, "Try": r.Try != 0, "H": r.H != api.Head{},
		"S": r.S.ID != 0 || len(r.S.Data) != 0, "Cargo": len(r.Cargo) != 0,
	}
	for field, is := range there {
		if is && !slices.Contains(strings.Split(list, ", "), field) {
			return api.ErrForm
		}
	}
	if r.Place < 0 || r.Place >= 4 || r.Try < 0 || r.Try > 9999 || r.N < 0 || r.N > 1000000 {
		return api.ErrRange
	}
	if r.Kind == api.RTick {
		return api.OK
	}
	h := r.H
	if h.From < 0 || h.From >= 4 || h.To < 0 || h.To >= 4 || h.Seq < 0 || h.Seq >= 50 || h.Till < 1 || h.Till > 1000000 {
		return api.ErrRange
	}
	if h.From == h.To {
		return api.ErrWho
	}
	if e := cut.Check(h.P); e != api.OK {
		return e
	}
	if r.Kind == api.RKeep {
		return code.Check(h.P, r.S)
	}
	if (r.Kind == api.RSend || r.Kind == api.RDeliver) && len(r.Cargo) != h.P.Bytes {
		return api.ErrForm
	}
	return api.OK
}

// around answers a number that is mostly from least to most, sometimes at its edges or a step beyond.
func around(rnd *rand.Rand, least, most int) int {
	switch rnd.Intn(20) {
	case 0:
		return least - 1
	case 1:
		return most + 1
	case 2, 3, 4:
		return least
	case 5, 6, 7:
		return most
	}
	return least + rnd.Intn(most-least+1)
}

func someBytes(rnd *rand.Rand, n int) []byte {
	b := make([]byte, max(n, 0))
	rnd.Read(b)
	return b
}

// some answers a record of any kind, mostly with what it needs, mostly right.
func some(rnd *rand.Rand) api.Rec {
	r := api.Rec{Kind: 1 + rnd.Intn(8)}
	if rnd.Intn(30) == 0 {
		r.Kind = rnd.Intn(12) - 2
	}
	has := func(field string) bool { return used(r.Kind, field) != (rnd.Intn(40) == 0) }
	if has("Place") {
		r.Place = around(rnd, 0, 3)
	}
	if has("N") {
		r.N = around(rnd, 0, 1000000)
	}
	if has("Try") {
		r.Try = around(rnd, 0, 9999)
	}
	if has("H") {
		block := around(rnd, 1, 16)
		r.H = api.Head{From: around(rnd, 0, 3), Seq: around(rnd, 0, 49), To: around(rnd, 0, 3), Till: around(rnd, 1, 1000000), P: api.Plan{Bytes: around(rnd, 1, min(360, 24*max(block, 1))), Block: block}}
	}
	if has("S") {
		r.S = api.Symbol{ID: around(rnd, 0, 9999), Data: someBytes(rnd, r.H.P.Block)}
	}
	if has("Cargo") {
		r.Cargo = someBytes(rnd, r.H.P.Bytes)
	}
	if rnd.Intn(15) == 0 && len(r.Cargo) > 0 {
		r.Cargo = r.Cargo[1:]
	}
	if rnd.Intn(15) == 0 && len(r.S.Data) > 0 {
		r.S.Data = r.S.Data[1:]
	}
	return r
}

// P7.1 to P7.3 on random records, against the rules written out apart.
func TestRandom(t *testing.T) {
	rnd := rand.New(rand.NewSource(7))
	seen := map[string]int{}
	for range 60000 {
		r := some(rnd)
		want := checked(r)
		seen[fmt.Sprint(want == api.OK, r.Kind)]++
		if e := Check(r); e != want {
			t.Fatalf("%+v: %d, want %d", r, e, want)
		}
		s, e := Print(r)
		if e != want || (e != api.OK) != (s == "") {
			t.Fatalf("%+v: printed %q, %d, want %d", r, s, e, want)
		}
		if want == api.OK && s != written(r) {
			t.Fatalf("%+v: printed %q, want %q", r, s, written(r))
		}
		x, e := Parse(written(r))
		if e != want || e == api.OK && !Same(x, r) {
			t.Fatalf("%+v: parsed %+v, %d, want %d", r, x, e, want)
		}
		if e == api.OK && (!bytes.Equal(x.S.Data, r.S.Data) || !bytes.Equal(x.Cargo, r.Cargo) || x.H != r.H || x.N != r.N) {
			t.Fatalf("%+v: parsed %+v, which isn't the same", r, x)
		}
		asked(t, written(r))
	}
	for _, kind := range kinds {
		if seen[fmt.Sprint(true, kind)] < 500 || seen[fmt.Sprint(false, kind)] < 500 {
			t.Errorf("too few records of kind %d: %v", kind, seen)
		}
	}
}

// P2: what is handed in is only read, the spare room behind it, too.
func TestOnlyReads(t *testing.T) {
	for _, kind := range kinds {
		data := append(make(api.Block, 0, 8), 10, 255, 77, 78)
		cargo := append(make([]byte, 0, 16), 0, 1, 16, 171, 205, 79, 80)
		r := good(kind)
		if used(kind, "S") {
			r.S.Data = data[:2]
		}
		if used(kind, "Cargo") {
			r.Cargo = cargo[:5]
		}
		Check(r)
		Same(r, r)
		Print(r)
		if !bytes.Equal(data, []byte{10, 255, 77, 78}) || !bytes.Equal(cargo, []byte{0, 1, 16, 171, 205, 79, 80}) {
			t.Errorf("kind %d: what was handed in is now %v, %v", kind, data, cargo)
		}
	}
}

// P2: two answers share no memory.
func TestNewMemory(t *testing.T) {
	for _, c := range texts {
		a, _ := Parse(c.text)
		b, _ := Parse(c.text)
		for _, l := range [][]byte{a.S.Data, a.Cargo} {
			for i := range l[:cap(l)] {
				l[:cap(l)][i] ^= 255
			}
		}
		if !Same(b, good(c.kind)) {
			t.Errorf("%q: changed by another answer: %+v", c.text, b)
		}
	}
}
