package disk

import (
	"bytes"
	"math"
	"math/rand"
	"reflect"
	"slices"
	"strings"
	"testing"

	"bottlepost/api"
	"bottlepost/note"
)

// tick is the shortest line that there is.
const tick = "8 0 5 0 0 0 0 0 0 0 0 - -\n"

func head() api.Head {
	return api.Head{From: 1, Seq: 3, To: 2, Till: 50, P: api.Plan{Bytes: 5, Block: 2}}
}

// records: one of each kind, with its line, written out by hand.
var records = []struct {
	r    api.Rec
	line string
}{
	{api.Rec{Kind: api.RSend, N: 4, H: head(), Cargo: []byte{0, 1, 16, 171, 205}}, "1 0 4 0 1 3 2 50 5 2 0 - -000110abcd\n"},
	{api.Rec{Kind: api.RKeep, H: head(), S: api.Symbol{ID: 7, Data: api.Block{10, 255}}}, "2 0 0 0 1 3 2 50 5 2 7 -0aff -\n"},
	{api.Rec{Kind: api.RDeliver, H: head(), Cargo: []byte{0, 1, 16, 171, 205}}, "3 0 0 0 1 3 2 50 5 2 0 - -000110abcd\n"},
	{api.Rec{Kind: api.RGive, Place: 3, N: 4, Try: 6, H: head()}, "4 3 4 6 1 3 2 50 5 2 0 - -\n"},
	{api.Rec{Kind: api.RGiven, Try: 6, H: head()}, "5 0 0 6 1 3 2 50 5 2 0 - -\n"},
	{api.Rec{Kind: api.RTake, Place: 3, N: 4, Try: 6, H: head()}, "6 3 4 6 1 3 2 50 5 2 0 - -\n"},
	{api.Rec{Kind: api.RPurge, H: head()}, "7 0 0 0 1 3 2 50 5 2 0 - -\n"},
	{api.Rec{Kind: api.RTick, N: 4}, "8 0 4 0 0 0 0 0 0 0 0 - -\n"},
}

// ticks answers so many lines.
func ticks(n int) string { return strings.Repeat(tick, n) }

// long answers a record whose line has 300 bytes, so that MaxLog of them have MaxText bytes.
func long() api.Rec {
	return api.Rec{Kind: api.RSend, N: 10, H: api.Head{To: 1, Till: 1, P: api.Plan{Bytes: 135, Block: 16}}, Cargo: make([]byte, 135)}
}

const longStart = "1 0 10 0 0 0 1 1 135 16 0 - -"

// longs answers so many lines of 300 bytes each.
func longs(n int) string { return strings.Repeat(longStart+strings.Repeat("0", 270)+"\n", n) }

func spaces(n int) string { return strings.Repeat(" ", n) }

func disk(safe, wait string) api.Disk {
	return api.Disk{Safe: []byte(safe), Wait: []byte(wait)}
}

func sameRecords(a, b []api.Rec) bool { return slices.EqualFunc(a, b, note.Same) }

// zero says whether nothing is there, not even an empty list.
func zero(d api.Disk) bool { return d.Safe == nil && d.Wait == nil }

// refused: disks that Check refuses.
var refused = []struct {
	name       string
	safe, wait string
	want       api.Errno
}{
	{"no line feed", tick[:25], "", api.ErrTorn},
	{"no line feed, the rest waits", tick[:25], "\n", api.ErrTorn},
	{"half a line", tick[:4], tick[4:], api.ErrTorn},
	{"no line feed at the end", tick + tick[:25], "", api.ErrTorn},
	{"no line feed ahead of no record", tick + "x", "", api.ErrTorn},
	{"a blank", " ", "", api.ErrTorn},
	{"another end", tick[:25] + "\r", "", api.ErrTorn},
	{"no record", "x\n", "", api.ErrText},
	{"an empty line", "\n", "", api.ErrText},
	{"an empty line at the end", tick + "\n", "", api.ErrText},
	{"an empty line at the begin", "\n" + tick, "", api.ErrText},
	{"a return ahead of the line feed", tick[:25] + "\r\n", "", api.ErrText},
	{"a blank ahead of the line feed", tick[:25] + " \n", "", api.ErrText},
	{"two records of a line", tick[:25] + tick, "", api.ErrText},
	{"a nought ahead", "8 0 05 0 0 0 0 0 0 0 0 - -\n", "", api.ErrText},
	{"no kind", "9 0 0 0 0 0 0 0 0 0 0 - -\n", "", api.ErrForm},
	{"no time", "8 0 -1 0 0 0 0 0 0 0 0 - -\n", "", api.ErrRange},
	{"to itself", "7 0 0 0 1 3 1 50 5 2 0 - -\n", "", api.ErrWho},
	{"too many blocks", "7 0 0 0 1 3 2 50 25 1 0 - -\n", "", api.ErrMany},
	{"the second line", tick + "9 0 0 0 0 0 0 0 0 0 0 - -\n" + tick, "", api.ErrForm},
	{"the first of two wrong ones", "x\n" + "9 0 0 0 0 0 0 0 0 0 0 - -\n", "", api.ErrText},
	{"the first of two wrong ones, the other way round", "9 0 0 0 0 0 0 0 0 0 0 - -\n" + "x\n", "", api.ErrForm},
	{"a wrong line ahead of no line feed", "x\n" + tick[:25], "", api.ErrText},
	{"a line too many", ticks(201), "", api.ErrMany},
	{"many lines too many", ticks(2000), "", api.ErrMany},
	{"the line too many has no line feed", ticks(200) + tick[:25], "", api.ErrTorn},
	{"the line too many is no record", ticks(200) + "x\n", "", api.ErrText},
	{"the line too many is a wrong record", ticks(200) + "8 0 -1 0 0 0 0 0 0 0 0 - -\n", "", api.ErrRange},
	{"a line too many ahead of no record", ticks(201) + "x\n", "", api.ErrMany},
	{"a line too many ahead of no line feed", ticks(201) + "x", "", api.ErrMany},
	{"a wrong line ahead of a line too many", ticks(199) + "x\n" + ticks(2), "", api.ErrText},
	{"a byte too many waits", "", spaces(60001), api.ErrMany},
	{"a byte too many in both", tick, spaces(60001 - len(tick)), api.ErrMany},
	{"a byte too many behind all that is safe", longs(200), "x", api.ErrMany},
	{"a byte too many is safe", spaces(60001), "", api.ErrMany},
	{"too many bytes ahead of no line feed", tick[:25], spaces(60001 - 25), api.ErrMany},
	{"too many bytes ahead of no record", "x\n", spaces(60001 - 2), api.ErrMany},
	{"just so many bytes, no line feed", tick[:25], spaces(60000 - 25), api.ErrTorn},
	{"just so many bytes, all of them safe", spaces(60000), "", api.ErrTorn},
	{"just so many bytes, all of them in a line", spaces(59999) + "\n", "", api.ErrText},
	{"just so many bytes, all of them line feeds", strings.Repeat("\n", 60000), "", api.ErrText},
	{"any bytes", "\x00\xff\n", "", api.ErrText},
}

// taken: disks that Check takes.
var taken = []struct{ name, safe, wait string }{
	{"nothing", "", ""},
	{"a line", tick, ""},
	{"a line waits", "", tick},
	{"a line each", tick, tick},
	{"what waits is no record", tick, "x\n"},
	{"what waits is torn", tick, tick[:25]},
	{"what waits is a line feed", "", "\n"},
	{"what waits is anything", tick, "\x00\xff\n\n"},
	{"as many lines as may be", ticks(200), ""},
	{"more lines wait", ticks(200), ticks(300)},
	{"as many bytes as may be", longs(200), ""},
	{"as many bytes as may be wait", "", spaces(60000)},
	{"as many bytes as may be in both", longs(199), longs(1)},
	{"as many bytes as may be, of any kind", tick, spaces(60000 - len(tick))},
}

// P8.1: what is safe is a log, and there isn't too much of all.
func TestCheck(t *testing.T) {
	if e := Check(api.Disk{}); e != api.OK {
		t.Errorf("nothing: %d", e)
	}
	for _, c := range taken {
		if e := Check(disk(c.safe, c.wait)); e != api.OK {
			t.Errorf("%s: %d, want OK", c.name, e)
		}
	}
	for _, c := range refused {
		if e := Check(disk(c.safe, c.wait)); e != c.want {
			t.Errorf("%s: %d, want %d", c.name, e, c.want)
		}
	}
	all := ""
	for _, c := range records {
		all += c.line
		if e := Check(disk(c.line, "")); e != api.OK {
			t.Errorf("%q: %d, want OK", c.line, e)
		}
	}
	if e := Check(disk(all, "")); e != api.OK {
		t.Errorf("all kinds: %d, want OK", e)
	}
}

// P8.1: the other calls say Check's error ahead of their own, and answer nothing beside.
func TestOthersSayItFirst(t *testing.T) {
	for _, c := range refused {
		d := disk(c.safe, c.wait)
		for _, r := range []api.Rec{records[0].r, {}, {Kind: api.RTick, N: -1}} {
			if x, e := Put(d, r); e != c.want || !zero(x) {
				t.Errorf("%s: put %v, %d, want %d", c.name, x, e, c.want)
			}
		}
		if x, e := Sync(d); e != c.want || !zero(x) {
			t.Errorf("%s: synced %v, %d, want %d", c.name, x, e, c.want)
		}
		for _, n := range []int{0, len(c.wait), -1, len(c.wait) + 1} {
			if x, e := Crash(d, n); e != c.want || !zero(x) {
				t.Errorf("%s: crashed %v, %d, want %d", c.name, x, e, c.want)
			}
		}
		if x, l, e := Recover(d); e != c.want || !zero(x) || l != nil {
			t.Errorf("%s: recovered %v, %v, %d, want %d", c.name, x, l, e, c.want)
		}
	}
}

// P8.1: every byte counts, and where it stands, whatever it is.
func TestSame(t *testing.T) {
	list := []api.Disk{
		{}, disk(tick, ""), disk("", tick), disk(tick, tick), disk(tick, tick[:25]), disk(tick[:25], tick), disk(tick[:25], "\n"),
		disk("x", ""), disk("", "x"), disk("y", ""), disk("", "y"), disk("x", "y"), disk("y", "x"), disk("xy", ""), disk("", "xy"), disk("x\x00", ""), disk("\x00x", ""),
		disk(spaces(70000), ""), disk(spaces(70001), ""), disk(spaces(70000), "x"),
	}
	for i, a := range list {
		for j, b := range list {
			if Same(a, disk(string(b.Safe), string(b.Wait))) != (i == j) {
				t.Errorf("%.30q, %.30q: the same isn't %v", a, b, i == j)
			}
		}
	}
	if !Same(api.Disk{}, disk("", "")) || !Same(disk("", ""), api.Disk{}) {
		t.Error("an empty list isn't like none")
	}
}

// P8.2: the line of a record goes behind what waits, whatever that is.
func TestPut(t *testing.T) {
	for _, start := range taken {
		for _, c := range records {
			d := disk(start.safe, start.wait)
			if len(start.safe)+len(start.wait)+len(c.line) > api.MaxText {
				if x, e := Put(d, c.r); e != api.ErrMany || !zero(x) {
					t.Errorf("%s, kind %d: %d, want ErrMany", start.name, c.r.Kind, e)
				}
				continue
			}
			want := disk(start.safe, start.wait+c.line)
			if x, e := Put(d, c.r); e != api.OK || !Same(x, want) {
				t.Errorf("%s, kind %d: %q, %d", start.name, c.r.Kind, x, e)
			}
		}
	}
}

// P8.2: what is no record isn't put, be there room or not.
func TestPutRefusesRecords(t *testing.T) {
	wrong := map[api.Errno]api.Rec{
		api.ErrForm:  {},
		api.ErrRange: {Kind: api.RTick, N: -1},
		api.ErrWho:   {Kind: api.RPurge, H: api.Head{Till: 1, P: api.Plan{Bytes: 1, Block: 1}}},
		api.ErrMany:  {Kind: api.RPurge, H: api.Head{To: 1, Till: 1, P: api.Plan{Bytes: 25, Block: 1}}},
	}
	for _, d := range []api.Disk{{}, disk(tick, tick), disk(longs(200), ""), disk("", spaces(60000))} {
		for want, r := range wrong {
			if x, e := Put(d, r); e != want || !zero(x) {
				t.Errorf("%+v: %d, want %d", r, e, want)
			}
		}
	}
}

// P8.2: the last byte that there is room for, and one less.
func TestPutRoom(t *testing.T) {
	line := longs(1)
	for _, safe := range []string{"", tick, longs(100), longs(199)} {
		room := api.MaxText - len(safe) - len(line)
		if x, e := Put(disk(safe, spaces(room)), long()); e != api.OK || !Same(x, disk(safe, spaces(room)+line)) {
			t.Errorf("%d bytes are safe, there is just room: %d", len(safe), e)
		}
		if x, e := Put(disk(safe, spaces(room+1)), long()); e != api.ErrMany || !zero(x) {
			t.Errorf("%d bytes are safe, there is a byte less room: %d, want ErrMany", len(safe), e)
		}
	}
}

// P8.2: what waits is safe then, if it is a log with what was safe.
func TestSync(t *testing.T) {
	for _, c := range []struct {
		name, safe, wait string
		want             api.Errno
	}{
		{"nothing", "", "", api.OK},
		{"nothing waits", tick, "", api.OK},
		{"nothing is safe", "", tick, api.OK},
		{"a line each", tick, records[0].line, api.OK},
		{"some lines", tick + records[1].line, records[2].line + tick + records[3].line, api.OK},
		{"as many lines as may be", ticks(150), ticks(50), api.OK},
		{"as many bytes as may be", longs(120), longs(80), api.OK},
		{"a line too many", ticks(150), ticks(51), api.ErrMany},
		{"a line too many waits", "", ticks(201), api.ErrMany},
		{"the line too many is no record", ticks(150), ticks(50) + "x\n", api.ErrText},
		{"torn", tick, tick[:25], api.ErrTorn},
		{"torn behind a line", tick, tick + tick[:1], api.ErrTorn},
		{"no record", tick, "x\n", api.ErrText},
		{"no record ahead of a line", tick, "x\n" + tick, api.ErrText},
		{"an empty line", tick, "\n", api.ErrText},
		{"a wrong record", tick, tick + "9 0 0 0 0 0 0 0 0 0 0 - -\n", api.ErrForm},
		{"a wrong time", "", "8 0 1000001 0 0 0 0 0 0 0 0 - -\n", api.ErrRange},
		{"to itself", "", "7 0 0 0 1 3 1 50 5 2 0 - -\n", api.ErrWho},
		{"what waits would mend what is safe", tick[:7], tick[7:], api.ErrTorn},
	} {
		want := disk(c.safe+c.wait, "")
		if c.want != api.OK {
			want = api.Disk{}
		}
		x, e := Sync(disk(c.safe, c.wait))
		if e != c.want || !Same(x, want) || e != api.OK && !zero(x) {
			t.Errorf("%s: %q, %d, want %d", c.name, x, e, c.want)
		}
	}
}

// P8.2: every beginning of what waits can be left, and nothing else.
func TestCrash(t *testing.T) {
	for _, c := range taken {
		d := disk(c.safe, c.wait)
		step := max(1, len(c.wait)/100)
		for n := 0; n <= len(c.wait); n += step {
			if x, e := Crash(d, n); e != api.OK || !Same(x, disk(c.safe, c.wait[:n])) {
				t.Errorf("%s, %d bytes: %.60q, %d", c.name, n, x, e)
			}
		}
		if x, e := Crash(d, len(c.wait)); e != api.OK || !Same(x, d) {
			t.Errorf("%s, all bytes: %.60q, %d", c.name, x, e)
		}
		for _, n := range []int{-1, len(c.wait) + 1, math.MinInt, math.MaxInt} {
			if x, e := Crash(d, n); e != api.ErrRange || !zero(x) {
				t.Errorf("%s, %d bytes: %.60q, %d, want ErrRange", c.name, n, x, e)
			}
		}
	}
	// The spare room behind what waits is none of its bytes.
	roomy := api.Disk{Wait: []byte(tick + tick)[:len(tick)]}
	if x, e := Crash(roomy, len(tick)+1); e != api.ErrRange || !zero(x) {
		t.Errorf("bytes of the spare room: %q, %d", x, e)
	}
}

// P8.2: the whole lines at the begin of what waits are safe then, and the rest is gone.
func TestRecover(t *testing.T) {
	for _, c := range []struct {
		name, safe, wait string
		left             string
	}{
		{"nothing", "", "", ""},
		{"nothing waits", tick, "", ""},
		{"a line", tick, tick, tick},
		{"nothing is safe", "", tick, tick},
		{"all kinds", tick, lines(all()...), lines(all()...)},
		{"torn", tick, tick[:25], ""},
		{"torn behind a line", tick, records[1].line + tick[:4], records[1].line},
		{"no record", tick, "x\n", ""},
		{"a line behind no record", tick, "x\n" + tick, ""},
		{"a line ahead of no record", tick, tick + "x\n" + tick, tick},
		{"an empty line between", tick, tick + "\n" + tick, tick},
		{"an empty line at the begin", tick, "\n" + tick, ""},
		{"a wrong record between", "", tick + "8 0 -1 0 0 0 0 0 0 0 0 - -\n" + tick, tick},
		{"another end of the line", "", tick + tick[:25] + "\r\n" + tick, tick},
		{"any bytes", tick, "\x00\xff\n", ""},
		{"as many lines as may be", ticks(150), ticks(50), ticks(50)},
		{"a line too many", ticks(150), ticks(51), ticks(50)},
		{"many lines too many", ticks(150), ticks(500), ticks(50)},
		{"a line too many waits", "", ticks(201), ticks(200)},
		{"a line too many, all of the others safe", ticks(200), tick, ""},
		{"the line too many is no record", ticks(150), ticks(50) + "x\n", ticks(50)},
		{"the line too many is torn", ticks(199), tick + tick[:3], tick},
		{"as many bytes as may be", longs(120), longs(80), longs(80)},
		{"as many bytes as may be, most of them gone", tick, spaces(60000 - len(tick)), ""},
	} {
		x, l, e := Recover(disk(c.safe, c.wait))
		if e != api.OK || !Same(x, disk(c.safe+c.left, "")) {
			t.Errorf("%s: %.90q, %d", c.name, x, e)
		}
		if lines(l...) != c.safe+c.left {
			t.Errorf("%s: %d records, %+v", c.name, len(l), l)
		}
		// What was recovered is a log, of which nothing more is lost.
		y, again, e := Recover(x)
		if e != api.OK || !Same(x, y) || !sameRecords(l, again) {
			t.Errorf("%s: recovered again %.90q, %d", c.name, y, e)
		}
	}
}

// lines answers the lines of records that note prints.
func lines(list ...api.Rec) string {
	var text strings.Builder
	for _, r := range list {
		s, _ := note.Print(r)
		text.WriteString(s + "\n")
	}
	return text.String()
}

// all answers the records of each kind.
func all() []api.Rec {
	var list []api.Rec
	for _, c := range records {
		list = append(list, c.r)
	}
	return list
}

// putAll puts some records, one after the other.
func putAll(t *testing.T, d api.Disk, list []api.Rec) api.Disk {
	t.Helper()
	for _, r := range list {
		var e api.Errno
		if d, e = Put(d, r); e != api.OK {
			t.Fatalf("%+v: %d", r, e)
		}
	}
	return d
}

// P8.3: of each kind, however many were synced and however many bytes are kept.
func TestWhateverIsKept(t *testing.T) {
	list := all()
	for synced := range len(list) + 1 {
		d, e := Sync(putAll(t, api.Disk{}, list[:synced]))
		if e != api.OK {
			t.Fatalf("%d records: %d", synced, e)
		}
		d = putAll(t, d, list[synced:])
		for n := range len(d.Wait) + 1 {
			whole := strings.Count(string(d.Wait[:n]), "\n")
			k, e := Crash(d, n)
			if e != api.OK {
				t.Fatalf("%d records synced, %d bytes kept: %d", synced, n, e)
			}
			x, l, e := Recover(k)
			if e != api.OK || !sameRecords(l, list[:synced+whole]) {
				t.Fatalf("%d records synced, %d bytes kept: %d, %+v", synced, n, e, l)
			}
			if !Same(x, disk(lines(list[:synced+whole]...), "")) {
				t.Fatalf("%d records synced, %d bytes kept: %q", synced, n, x)
			}
		}
	}
}

// P8.3: over many crashes, one after the other: what was synced stays, of what wasn't there is a beginning.
func TestManyCrashes(t *testing.T) {
	rnd := rand.New(rand.NewSource(8))
	kinds := all()
	for range 15 {
		var d api.Disk
		var synced, waiting []api.Rec
		for len(synced)+len(waiting) < api.MaxLog {
			var e api.Errno
			switch rnd.Intn(6) {
			case 0:
				if d, e = Sync(d); e != api.OK {
					t.Fatalf("%d records: %d", len(synced)+len(waiting), e)
				}
				synced, waiting = append(synced, waiting...), nil
			case 1:
				if d, e = Crash(d, rnd.Intn(len(d.Wait)+1)); e != api.OK {
					t.Fatal(e)
				}
				var l []api.Rec
				if d, l, e = Recover(d); e != api.OK || len(d.Wait) != 0 {
					t.Fatal(d, e)
				}
				if len(l) < len(synced) || len(l) > len(synced)+len(waiting) || !sameRecords(l, slices.Concat(synced, waiting)[:len(l)]) {
					t.Fatalf("%d were synced, %d weren't, %d are there: %+v", len(synced), len(waiting), len(l), l)
				}
				synced, waiting = l, nil
			default:
				r := kinds[rnd.Intn(len(kinds))]
				d = putAll(t, d, []api.Rec{r})
				waiting = append(waiting, r)
			}
		}
	}
}

// checked is Check's rule written out word by word, apart from the program.
func checked(d api.Disk) api.Errno {
	if len(d.Safe)+len(d.Wait) > 60000 {
		return api.ErrMany
	}
	for i, line := range strings.SplitAfter(string(d.Safe), "\n") {
		if line == "" {
			break // SplitAfter answers this behind the last line feed
		}
		if !strings.HasSuffix(line, "\n") {
			return api.ErrTorn
		}
		if _, e := note.Parse(strings.TrimSuffix(line, "\n")); e != api.OK {
			return e
		}
		if i+1 > 200 {
			return api.ErrMany
		}
	}
	return api.OK
}

// recovered is Recover's rule of a disk that Check takes, written out apart: what is safe then.
func recovered(d api.Disk) string {
	safe, wait := string(d.Safe), string(d.Wait)
	for strings.Count(safe, "\n") < 200 {
		line, rest, whole := strings.Cut(wait, "\n")
		if _, e := note.Parse(line); !whole || e != api.OK {
			break
		}
		safe, wait = safe+line+"\n", rest
	}
	return safe
}

// some answers a text of mostly whole lines, and not too many of these, mostly.
func some(rnd *rand.Rand) string {
	var text strings.Builder
	n := rnd.Intn(8)
	switch rnd.Intn(12) {
	case 0:
		n = 95 + rnd.Intn(10)
	case 1:
		n = 198 + rnd.Intn(5)
	}
	for range n {
		text.WriteString(records[rnd.Intn(len(records))].line)
	}
	s := text.String()
	at := rnd.Intn(len(s) + 1)
	switch rnd.Intn(12) {
	case 0:
		return s[:at]
	case 1:
		return s[:at] + "\n" + s[at:]
	case 2:
		return s[:at] + "x" + s[at:]
	case 3:
		return s[:at] + "0" + s[min(at+1, len(s)):]
	}
	return s
}

// held holds one call's answer against what it should be.
func held(t *testing.T, what string, d, x api.Disk, e api.Errno, want api.Disk, wrong api.Errno) {
	t.Helper()
	if e != wrong || e == api.OK && !Same(x, want) || e != api.OK && !zero(x) {
		t.Fatalf("%s: %q: %q, %d, want %q, %d", what, d, x, e, want, wrong)
	}
}

// P8.1 and P8.2 on random disks, against the rules written out apart.
func TestRandom(t *testing.T) {
	rnd := rand.New(rand.NewSource(88))
	seen := map[api.Errno]int{}
	for range 4000 {
		safe, wait := some(rnd), some(rnd)
		d := disk(safe, wait)
		if rnd.Intn(20) == 0 {
			wait += spaces(max(0, api.MaxText-len(safe)-len(wait)-rnd.Intn(40)))
			d = disk(safe, wait+spaces(rnd.Intn(3)))
			wait = string(d.Wait)
		}
		first := checked(d)
		seen[first]++
		if e := Check(d); e != first {
			t.Fatalf("%q: %d, want %d", d, e, first)
		}

		c := records[rnd.Intn(len(records))]
		wrong := first
		if wrong == api.OK && len(safe)+len(wait)+len(c.line) > 60000 {
			wrong = api.ErrMany
		}
		x, e := Put(d, c.r)
		held(t, "put", d, x, e, disk(safe, wait+c.line), wrong)

		wrong = first
		if wrong == api.OK {
			wrong = checked(disk(safe+wait, ""))
		}
		x, e = Sync(d)
		held(t, "sync", d, x, e, disk(safe+wait, ""), wrong)

		n := rnd.Intn(len(wait)+5) - 2
		wrong = first
		if wrong == api.OK && (n < 0 || n > len(wait)) {
			wrong = api.ErrRange
		}
		x, e = Crash(d, n)
		held(t, "crash", d, x, e, disk(safe, wait[:min(max(n, 0), len(wait))]), wrong)

		x, l, e := Recover(d)
		if first != api.OK {
			held(t, "recover", d, x, e, api.Disk{}, first)
			if l != nil {
				t.Fatalf("%q: an error, and records: %+v", d, l)
			}
			continue
		}
		held(t, "recover", d, x, e, disk(recovered(d), ""), api.OK)
		if lines(l...) != string(x.Safe) {
			t.Fatalf("%q: records %+v", d, l)
		}
	}
	for _, e := range []api.Errno{api.OK, api.ErrTorn, api.ErrText, api.ErrMany} {
		if seen[e] < 20 {
			t.Errorf("too few disks of %d: %v", e, seen)
		}
	}
}

// roomy answers bytes with spare room behind them, and all of that memory.
func roomy(s string) (list, memory []byte) {
	memory = []byte(s + strings.Repeat("~", 100))
	return memory[:len(s)], memory
}

// P2: what is handed in is only read, the spare room behind it, too; what is answered is other memory.
func TestMemory(t *testing.T) {
	for _, text := range [][2]string{{"", ""}, {tick, ""}, {"", tick}, {tick, tick}, {tick, tick + tick[:5]}, {tick, "x\n"}} {
		safe, safeMemory := roomy(text[0])
		wait, waitMemory := roomy(text[1])
		cargo, cargoMemory := roomy("\x00\x01\x10\xab\xcd")
		r := records[0].r
		r.Cargo = cargo
		d := api.Disk{Safe: safe, Wait: wait}
		Check(d)
		Same(d, d)
		put, _ := Put(d, r)
		synced, _ := Sync(d)
		crashed, _ := Crash(d, len(wait))
		some, list, _ := Recover(d)
		answers := [][]byte{put.Safe, put.Wait, synced.Safe, synced.Wait, crashed.Safe, crashed.Wait, some.Safe, some.Wait}
		for _, x := range list {
			answers = append(answers, x.S.Data, x.Cargo)
		}
		want := map[int]string{}
		for i, a := range answers {
			want[i] = string(a)
		}
		// Whoever writes into one answer, up to its end, changes no other list.
		for i, a := range answers {
			whole := a[:cap(a)]
			kept := bytes.Clone(whole)
			for j := range whole {
				whole[j] ^= 255
			}
			for j, b := range answers {
				if i != j && string(b) != want[j] {
					t.Errorf("%q: answers %d and %d share memory", text, i, j)
				}
			}
			if string(safeMemory) != text[0]+strings.Repeat("~", 100) || string(waitMemory) != text[1]+strings.Repeat("~", 100) || string(cargoMemory) != "\x00\x01\x10\xab\xcd"+strings.Repeat("~", 100) {
				t.Errorf("%q: what was handed in is now %q, %q, %q", text, safeMemory, waitMemory, cargoMemory)
			}
			copy(whole, kept)
		}
	}
}

// P2: the records that are answered share no memory with each other, nor with those of another answer.
func TestRecordsMemory(t *testing.T) {
	d := putAll(t, api.Disk{}, slices.Concat(all(), all()))
	_, a, _ := Recover(d)
	_, b, _ := Recover(d)
	if !reflect.DeepEqual(a, b) || len(a) != 16 {
		t.Fatalf("%+v, and then %+v", a, b)
	}
	for i := range a[:8] {
		for _, l := range [][]byte{a[i].S.Data, a[i].Cargo} {
			for j := range l[:cap(l)] {
				l[:cap(l)][j] ^= 255
			}
		}
	}
	if !sameRecords(a[8:], all()) || !sameRecords(b, slices.Concat(all(), all())) {
		t.Error("changed by another record")
	}
}
