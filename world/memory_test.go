package world

import (
	"fmt"
	"reflect"
	"slices"
	"testing"

	"bottlepost/api"
)

// room is memory that a list takes up, with the spare room behind it.
type room struct {
	name     string
	from, to uintptr
}

// rooms answers the memory of all lists in v, those in spare room, too.
func rooms(name string, v reflect.Value) []room {
	var all []room
	switch v.Kind() {
	case reflect.Slice:
		if size := uintptr(v.Cap()) * v.Type().Elem().Size(); size > 0 {
			all = append(all, room{name, v.Pointer(), v.Pointer() + size})
		}
		v = v.Slice(0, v.Cap())
		for i := range v.Len() {
			all = append(all, rooms(fmt.Sprintf("%s %d", name, i), v.Index(i))...)
		}
	case reflect.Struct:
		for i := range v.NumField() {
			all = append(all, rooms(name+" "+v.Type().Field(i).Name, v.Field(i))...)
		}
	}
	return all
}

// roomy answers a copy of v all of whose lists have spare room, with marks in it.
func roomy(v reflect.Value) reflect.Value {
	x := reflect.New(v.Type()).Elem()
	x.Set(v)
	switch v.Kind() {
	case reflect.Slice:
		n := v.Len()
		x = reflect.MakeSlice(v.Type(), n+3, n+3)
		for i := range n {
			x.Index(i).Set(roomy(v.Index(i)))
		}
		for i := n; i < n+3 && v.Type().Elem().Kind() == reflect.Uint8; i++ {
			x.Index(i).SetUint(77)
		}
		x = x.Slice(0, n)
	case reflect.Struct:
		for i := range v.NumField() {
			x.Field(i).Set(roomy(v.Field(i)))
		}
	}
	return x
}

// whole tells all of v, with the spare room of its lists.
func whole(v reflect.Value) string {
	text := ""
	switch v.Kind() {
	case reflect.Slice:
		text = fmt.Sprint(v.Len(), ":")
		v = v.Slice(0, v.Cap())
		for i := range v.Len() {
			text += whole(v.Index(i)) + ","
		}
	case reflect.Struct:
		for i := range v.NumField() {
			text += whole(v.Field(i)) + ";"
		}
	default:
		text = fmt.Sprint(v)
	}
	return text
}

// ownMemory: does none of what is answered share memory with what was given, or with another list of the same answer?
func ownMemory(t *testing.T, what string, given []room, answered any) {
	t.Helper()
	l := rooms("answered", reflect.ValueOf(answered))
	for i, a := range l {
		for _, b := range slices.Concat(given, l[i+1:]) {
			if a.from < b.to && b.from < a.to {
				t.Errorf("%s: %s and %s share memory", what, a.name, b.name)
			}
		}
	}
}

// happenings: at least one of each kind, and of each kind of mail, that can be of the sample; node 1 is down in it.
func happenings() []api.Happening {
	l := []api.Happening{
		sends(0, 1, 30, 5, 2, cargo()), of(api.HTick, 0, 0, 0, 1), of(api.HCrash, 0, 0, 0, 0), of(api.HBoot, 1, 0, 0, 0),
		of(api.HMeet, 3, 2, 0, 7), of(api.HAgain, 3, 0, 0, 0), {Kind: api.HTell, Node: 2, From: 3}, {Kind: api.HGive, Node: 3, From: 3, To: 1},
		{Kind: api.HMeet, Node: 3, From: 3, To: 2, N: 5},
		{}, of(api.HMeet, 3, 2, 0, 8), coming(api.HHear, 3),
	}
	for k := range 4 {
		l = append(l, coming(api.HHear, k), coming(api.HTwice, k), coming(api.HLose, k))
	}
	return l
}

// P2: what is handed in is only read, and nothing of an answer shares its memory, or that of another list of the answer.
func TestMemory(t *testing.T) {
	s := sample()
	crashed(1)(&s)
	waits(1, odd[:26]+odd[:9])(&s)
	count := map[int]int{}
	for _, x := range happenings() {
		w := roomy(reflect.ValueOf(s.world(t))).Interface().(api.World)
		l := []api.Happening{roomy(reflect.ValueOf(x)).Interface().(api.Happening)}
		before, script := whole(reflect.ValueOf(w)), whole(reflect.ValueOf(l))
		what := fmt.Sprintf("%+v", x)
		given := slices.Concat(rooms("given", reflect.ValueOf(w)), rooms("script", reflect.ValueOf(l)))
		y, e := Do(w, l[0])
		z, said, f := Run(w, l)
		if e == api.OK {
			count[x.Kind]++
		}
		if f != api.OK || len(said) != 1 || said[0] != e || e == api.OK && !Same(y, z) || e != api.OK && !Same(z, w) {
			t.Errorf("%s: %d; run: %v, %d", what, e, said, f)
		}
		Check(w)
		Same(w, w)
		ownMemory(t, what, given, y)
		ownMemory(t, what+", run", given, struct {
			W    api.World
			Said []api.Errno
		}{z, said})
		if whole(reflect.ValueOf(w)) != before || whole(reflect.ValueOf(l)) != script {
			t.Errorf("%s: what was handed in is now %s, %s", what, whole(reflect.ValueOf(w)), whole(reflect.ValueOf(l)))
		}
	}
	for kind := api.HSend; kind <= api.HBoot; kind++ {
		if count[kind] == 0 {
			t.Errorf("kind %d isn't done", kind)
		}
	}
}

// P2: what is handed in may share memory; what is answered doesn't.
func TestSharedMemory(t *testing.T) {
	w := sample().world(t)
	w.Mail = append(w.Mail, w.Mail[0], w.Mail[0])
	w.Nodes[1].P.Keep[1].Cargo = w.Nodes[1].P.Keep[0].Cargo
	w.Nodes[1].P.Keep[2].Cargo = w.Nodes[1].P.Keep[0].Cargo
	w.Nodes[3].P.Keep[0].Symbols[0].Data = w.Nodes[2].P.Keep[0].Symbols[1].Data
	if e := Check(w); e != api.OK {
		t.Fatal(e)
	}
	x := sends(1, 0, 30, 5, 2, w.Nodes[1].P.Keep[0].Cargo)
	given := slices.Concat(rooms("given", reflect.ValueOf(w)), rooms("script", reflect.ValueOf(x)))
	y, _ := Do(w, x)
	ownMemory(t, "send", given, y)
	for _, l := range [][]api.Happening{nil, {x, x}, {x, coming(api.HTwice, 0), coming(api.HHear, 5), of(api.HMeet, 1, 2, 0, 2), coming(api.HTwice, 5)}} {
		z, _, e := Run(w, l)
		if e != api.OK {
			t.Fatal(e)
		}
		ownMemory(t, "run", given, z)
	}
	ownMemory(t, "new", rooms("new", reflect.ValueOf(New())), New())
}
