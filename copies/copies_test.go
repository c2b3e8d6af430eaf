package copies

import (
	"fmt"
	"reflect"
	"testing"

	"bottlepost/api"
)

// roomy answers the list with marks in the spare room behind it.
func roomy[T any](mark T, l ...T) []T {
	return append(l, mark, mark)[:len(l)]
}

func symbol(id int) api.Symbol { return api.Symbol{ID: id, Data: roomy[byte](77, 1, 2)} }

func place() api.Place {
	k := api.Kept{
		H: api.Head{From: 1, Seq: 2, To: 3, Till: 4, P: api.Plan{Bytes: 5, Block: 6}}, Own: true,
		Cargo: roomy[byte](77, 9, 8), Symbols: roomy(symbol(77), symbol(7), symbol(8)),
		Shares: 9, Giving: 10, Towards: 11, Try: 12, Took: roomy(api.Taken{Place: 77}, api.Taken{Place: 1, Try: 2}),
		Delivered: true, Purged: true,
	}
	return api.Place{Me: 1, Time: 2, Seq: 3, Keep: roomy(k, k, api.Kept{}, k)}
}

func mail(to int) api.Mail {
	return api.Mail{From: 1, To: to, F: api.Frame{Kind: 3, H: api.Head{Seq: 4}, S: symbol(5), N: 6, Try: 7}}
}

// room is memory that a list takes up, with the spare room behind it.
type room struct{ from, to uintptr }

// rooms answers the memory of all lists in v.
func rooms(v reflect.Value) []room {
	var all []room
	switch v.Kind() {
	case reflect.Slice:
		if size := uintptr(v.Cap()) * v.Type().Elem().Size(); size > 0 {
			all = append(all, room{v.Pointer(), v.Pointer() + size})
		}
		for i := range v.Len() {
			all = append(all, rooms(v.Index(i))...)
		}
	case reflect.Struct:
		for i := range v.NumField() {
			all = append(all, rooms(v.Field(i))...)
		}
	}
	return all
}

// isCopy: is it alike, in memory of its own, each list by itself?
func isCopy(t *testing.T, what string, of, copied any) {
	t.Helper()
	if fmt.Sprint(of) != fmt.Sprint(copied) {
		t.Errorf("%s: %v, want %v", what, copied, of)
	}
	given, answered := rooms(reflect.ValueOf(of)), rooms(reflect.ValueOf(copied))
	if len(answered) != len(given) {
		t.Errorf("%s: %d lists, want %d", what, len(answered), len(given))
	}
	for i, a := range answered {
		for _, b := range append(given, answered[i+1:]...) {
			if a.from < b.to && b.from < a.to {
				t.Errorf("%s: two lists share memory", what)
			}
		}
	}
}

// P2: what is copied is alike, and shares no memory, even where what is handed in does.
func TestCopies(t *testing.T) {
	p, l := place(), roomy(mail(77), mail(1), mail(2))
	p.Keep[2] = p.Keep[0]
	l[1] = l[0]
	before := fmt.Sprint(p, l, p.Keep[:5], l[:4])
	isCopy(t, "place", place(), Place(place()))
	isCopy(t, "mails", []api.Mail{mail(1), mail(2)}, Mails([]api.Mail{mail(1), mail(2)}))
	isCopy(t, "mail", mail(1), Mail(mail(1)))
	isCopy(t, "symbol", symbol(3), Symbol(symbol(3)))
	isCopy(t, "place that shares memory", p, Place(p))
	isCopy(t, "mails that share memory", l, Mails(l))
	if now := fmt.Sprint(p, l, p.Keep[:5], l[:4]); now != before {
		t.Errorf("what was handed in is now %s, want %s", now, before)
	}
}

// P2: lists that have nothing in them stay so.
func TestCopiesOfNothing(t *testing.T) {
	isCopy(t, "no place", api.Place{}, Place(api.Place{}))
	isCopy(t, "no mail", api.Mail{}, Mail(api.Mail{}))
	isCopy(t, "no symbol", api.Symbol{}, Symbol(api.Symbol{}))
	for _, l := range [][]api.Mail{nil, {}} {
		if x := Mails(l); len(x) != 0 {
			t.Errorf("no mails: %v", x)
		}
	}
}
