package story

import (
	"bytes"
	"fmt"
	"reflect"
	"slices"
	"testing"

	"bottlepost/api"
	"bottlepost/world"
)

// room is memory that a list takes up, with the spare room behind it.
type room struct{ from, to uintptr }

// rooms answers the memory of all lists in v.
func rooms(v reflect.Value) []room {
	var all []room
	switch v.Kind() {
	case reflect.Slice:
		if size := uintptr(v.Cap()) * v.Type().Elem().Size(); size > 0 {
			all = append(all, room{v.Pointer(), v.Pointer() + size})
		}
		for i := range v.Len() {
			all = append(all, rooms(v.Index(i))...)
		}
	case reflect.Struct:
		for i := range v.NumField() {
			all = append(all, rooms(v.Field(i))...)
		}
	}
	return all
}

// roomy answers a copy of the bytes with marks in the spare room behind them.
func roomy(l []byte) []byte {
	return append(slices.Clone(l), 77, 77, 77)[:len(l)]
}

// spare answers what stands on the disks, with the spare room behind it.
func spare(w api.World) string {
	text := ""
	for _, n := range w.Nodes {
		text += fmt.Sprintf("%q %q\n", n.D.Safe[:cap(n.D.Safe)], n.D.Wait[:cap(n.D.Wait)])
	}
	return text
}

// P2: what is handed in is only read, and what is answered is new memory, list by list.
func TestMemory(t *testing.T) {
	l, want := busy()
	l[0], l[3] = away(lines(takes(second, 1, 4, 1))+"8 0", l[0]), away(lines(sends(other, 6, 9)), l[3])
	w, old := worldOf(t, l...), worldOf(t, l...)
	w.Mail = []api.Mail{{From: 1, To: 2, F: api.Frame{Kind: api.FSymbol, H: first, S: api.Symbol{ID: 0, Data: roomy([]byte{1, 2})}}}}
	old.Mail = []api.Mail{{From: 1, To: 2, F: api.Frame{Kind: api.FSymbol, H: first, S: api.Symbol{ID: 0, Data: api.Block{1, 2}}}}}
	for k, n := range w.Nodes {
		w.Nodes[k].D = api.Disk{Safe: roomy(n.D.Safe), Wait: roomy(n.D.Wait)}
	}
	before := spare(w)
	given := rooms(reflect.ValueOf(w))
	var kept [][]api.Delivery
	for range 2 {
		for k := range w.Nodes {
			a, _ := Sent(w, k)
			b, _ := Delivered(w, k)
			kept = append(kept, a, b)
			// What is done with an answer is nobody else's matter.
			for _, d := range slices.Concat(a, b) {
				d.Cargo = append(d.Cargo, 88)
				d.Cargo[0] = 88
			}
		}
		for _, b := range [][2]int{{1, 0}, {1, 1}, {3, 0}} {
			Shares(w, b[0], b[1])
		}
	}
	var answered []room
	for _, l := range kept {
		answered = append(answered, rooms(reflect.ValueOf(l))...)
	}
	for i, a := range answered {
		for _, b := range append(slices.Clone(given), answered[i+1:]...) {
			if a.from < b.to && b.from < a.to {
				t.Errorf("two lists share memory")
			}
		}
	}
	if len(answered) < 2*8 {
		t.Errorf("%d lists only", len(answered))
	}
	if spare(w) != before || !world.Same(w, old) || !bytes.Equal(w.Mail[0].F.S.Data[:3], []byte{1, 2, 77}) {
		t.Errorf("what was handed in is now %s, want %s", spare(w), before)
	}
	tells(t, "once more", w, want)
}
