package way

import (
	"fmt"
	"math"
	"math/rand"
	"reflect"
	"slices"
	"testing"

	"bottlepost/api"
)

// P10.2: a mail goes behind all that is on its way, whatever it is.
func TestSend(t *testing.T) {
	for n := range api.MaxMail {
		for at, m := range sample() {
			l := crowd(n)
			want := append(crowd(n), m)
			if x, e := Send(l, m); e != api.OK || !Same(x, want) {
				t.Errorf("kind %d behind %d: %+v, %d", at+1, n, x, e)
			}
			if !Same(l, crowd(n)) {
				t.Errorf("kind %d behind %d: what was handed in is now %+v", at+1, n, l)
			}
		}
	}
	// One that is on its way already is sent again.
	twice := []api.Mail{sample()[atShare], sample()[atShare]}
	if x, e := Send(twice[:1], twice[0]); e != api.OK || !Same(x, twice) {
		t.Errorf("the same again: %+v, %d", x, e)
	}
	if x, e := Send([]api.Mail{}, twice[0]); e != api.OK || !Same(x, twice[:1]) {
		t.Errorf("behind an empty list: %+v, %d", x, e)
	}
}

// P10.2: where there is no room, a mail is lost, without an error.
func TestSendNoRoom(t *testing.T) {
	for at, m := range sample() {
		if x, e := Send(crowd(40), m); e != api.OK || !Same(x, crowd(40)) {
			t.Errorf("kind %d: %+v, %d", at+1, x, e)
		}
		if x, e := Send(crowd(39), m); e != api.OK || len(x) != 40 || !Same(x[39:], []api.Mail{m}) {
			t.Errorf("kind %d, the last room: %+v, %d", at+1, x, e)
		}
		// There is no room, be there spare room or not.
		if x, e := Send(crowd(80)[:40], m); e != api.OK || !Same(x, crowd(40)) {
			t.Errorf("kind %d, spare room: %+v, %d", at+1, x, e)
		}
	}
}

// P10.2: what is wrong with the list is told ahead of what is wrong with the mail.
func TestSendOrder(t *testing.T) {
	for _, first := range slices.Concat(wrongAt(atShare)...) {
		for _, second := range slices.Concat(wrongAt(atSymbol)...) {
			l := []api.Mail{sample()[atReceipt], changed(sample()[atShare], first.f)}
			if x, e := Send(l, changed(sample()[atSymbol], second.f)); e != first.want || x != nil {
				t.Errorf("%s, then %s: %+v, %d, want %d", first.name, second.name, x, e, first.want)
			}
		}
	}
	if x, e := Send(crowd(41), api.Mail{}); e != api.ErrMany || x != nil {
		t.Errorf("too many, then nothing: %+v, %d", x, e)
	}
}

// P10.2: each one can be taken, and the others stay in order; if it comes twice, it stays, too.
func TestTake(t *testing.T) {
	for n := range api.MaxMail + 1 {
		for k := range n {
			l := crowd(n)
			want := append(crowd(k), crowd(n)[k+1:]...)
			x, m, e := Take(l, k, false)
			if e != api.OK || !Same(x, want) || !Same([]api.Mail{m}, crowd(n)[k:k+1]) {
				t.Errorf("%d of %d: %+v, %+v, %d", k, n, x, m, e)
			}
			x, m, e = Take(l, k, true)
			if e != api.OK || !Same(x, crowd(n)) || !Same([]api.Mail{m}, crowd(n)[k:k+1]) {
				t.Errorf("%d of %d twice: %+v, %+v, %d", k, n, x, m, e)
			}
			if !Same(l, crowd(n)) {
				t.Errorf("%d of %d: what was handed in is now %+v", k, n, l)
			}
		}
	}
	// Of those alike just one goes.
	same := slices.Repeat(sample()[atGot:atReceipt], 3)
	if x, _, e := Take(same, 1, false); e != api.OK || !Same(x, same[:2]) {
		t.Errorf("one of three alike: %+v, %d", x, e)
	}
}

// P10.2: there is no k.
func TestTakeNone(t *testing.T) {
	for _, l := range [][]api.Mail{nil, {}, sample(), crowd(40), crowd(40)[:3]} {
		for _, k := range []int{-1, len(l), len(l) + 1, math.MinInt, math.MaxInt} {
			for _, twice := range []bool{false, true} {
				if x, m, e := Take(l, k, twice); e != api.ErrWho || x != nil || !isZero(m) {
					t.Errorf("%d of %d: %+v, %+v, %d, want ErrWho", k, len(l), x, m, e)
				}
			}
		}
	}
}

// P10.2 on random mail: what was sent and not taken yet is on its way, in order, but for what there was no room for.
func TestSendAndTake(t *testing.T) {
	rnd := rand.New(rand.NewSource(102))
	var l, want []api.Mail
	full, twices := 0, 0
	for range 20000 {
		if rnd.Intn(11) < 6 {
			m := some(rnd)
			x, e := Send(l, m)
			if wrong := checked([]api.Mail{m}); e != wrong {
				t.Fatalf("%+v: %d, want %d", m, e, wrong)
			}
			if e != api.OK {
				continue
			}
			l = x
			if len(want) == 40 {
				full++
			} else {
				want = append(want, m)
			}
		} else if len(want) > 0 {
			k, twice := rnd.Intn(len(want)), rnd.Intn(5) == 0
			x, m, e := Take(l, k, twice)
			if e != api.OK || !Same([]api.Mail{m}, want[k:k+1]) {
				t.Fatalf("%d of %+v: %+v, %d", k, l, m, e)
			}
			l = x
			if twice {
				twices++
			} else {
				want = append(slices.Clone(want[:k]), want[k+1:]...)
			}
		}
		if !Same(l, want) {
			t.Fatalf("%+v, want %+v", l, want)
		}
	}
	if full < 100 || twices < 100 {
		t.Errorf("there was no room %d times, and %d came twice", full, twices)
	}
}

// room is memory that a list takes up, with the spare room behind it.
type room struct {
	name     string
	from, to uintptr
}

// roomOf answers the memory of a list, if it has any.
func roomOf(name string, list any) []room {
	v := reflect.ValueOf(list)
	size := uintptr(v.Cap()) * v.Type().Elem().Size()
	if size == 0 {
		return nil
	}
	return []room{{name, v.Pointer(), v.Pointer() + size}}
}

// rooms answers the memory of all lists of mails, those in the spare room, too.
func rooms(name string, l []api.Mail) []room {
	all := roomOf(name, l)
	for i, m := range l[:cap(l)] {
		all = append(all, roomOf(fmt.Sprintf("%s, Data %d", name, i), m.F.S.Data)...)
	}
	return all
}

func overlap(a, b room) bool { return a.from < b.to && b.from < a.to }

// roomy answers a symbol's mail with marks in the spare room of its data.
func roomy() api.Mail {
	m := sample()[atSymbol]
	m.F.S.Data = append(make(api.Block, 0, 8), 4, 2, 77, 77)[:2]
	return m
}

// whole tells mails with all the spare room of their lists.
func whole(l ...api.Mail) string {
	text := fmt.Sprintln(l[:cap(l)])
	for _, m := range l[:cap(l)] {
		text += fmt.Sprintln(m.F.S.Data[:cap(m.F.S.Data)])
	}
	return text
}

// P2: what is handed in is only read, and nothing of an answer shares its memory, or that of another list of the answer.
func TestMemory(t *testing.T) {
	for _, n := range []int{1, 3, 39, 40} {
		l := make([]api.Mail, 0, n+5)
		for range n + 5 {
			l = append(l, roomy())
		}
		l, m := l[:n], roomy()
		before, mail := whole(l...), whole(m)
		sent, _ := Send(l, m)
		left, came, _ := Take(l, n/2, false)
		again, twice, _ := Take(l, n/2, true)
		Check(l)
		Same(l, l)
		if whole(l...) != before || whole(m) != mail {
			t.Errorf("%d mails: what was handed in is now %s, %s", n, whole(l...), whole(m))
		}
		given := slices.Concat(rooms("given", l), roomOf("given mail's Data", m.F.S.Data))
		for _, answered := range [][]room{
			rooms("sent", sent),
			slices.Concat(rooms("left", left), roomOf("taken Data", came.F.S.Data)),
			slices.Concat(rooms("left after twice", again), roomOf("twice taken Data", twice.F.S.Data)),
		} {
			for i, a := range answered {
				for _, b := range slices.Concat(given, answered[i+1:]) {
					if overlap(a, b) {
						t.Errorf("%d mails: %s and %s share memory", n, a.name, b.name)
					}
				}
			}
		}
	}
}

// P2: mails that are handed in may share memory; those that are answered don't.
func TestSharedMemory(t *testing.T) {
	l := slices.Repeat([]api.Mail{roomy()}, 4)
	sent, _ := Send(l, l[0])
	left, came, _ := Take(l, 2, true)
	for _, answered := range [][]room{rooms("sent", sent), slices.Concat(rooms("left", left), roomOf("taken Data", came.F.S.Data))} {
		for i, a := range answered {
			for _, b := range slices.Concat(rooms("given", l), answered[i+1:]) {
				if overlap(a, b) {
					t.Errorf("%s and %s share memory", a.name, b.name)
				}
			}
		}
	}
}
