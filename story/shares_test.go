package story

import (
	"math"
	"slices"
	"strings"
	"testing"

	"bottlepost/api"
	"bottlepost/world"
)

// later: the first bundle, as nobody sent it.
func later() api.Head {
	h := first
	h.Till = 90
	return h
}

// giver: node 1 has 4 shares of the first bundle, and gives 4 to node 3.
func giver(more ...api.Rec) node {
	return up(append([]api.Rec{sends(first, 8, cargo()...), gives(first, 3, 4, 1)}, more...)...)
}

// away answers the node when it is down, with a text that waits.
func away(wait string, n node) node {
	n.wait, n.down = wait, true
	return n
}

// filler answers so many records that say nothing of the first bundle.
func filler(n int) []api.Rec {
	var l []api.Rec
	for i := range n {
		// No bundle may have too many symbols.
		h := api.Head{From: 0, Seq: i % 5, To: 2, Till: 90, P: other.P}
		l = append(l, keeps(h, i, 0))
	}
	return l
}

// P12.2: how many shares of the first bundle there are, by what its places have written down.
func TestShares(t *testing.T) {
	far := api.Head{From: 1, Seq: 0, To: 0, Till: 500, P: plan}
	for _, c := range []struct {
		name string
		l    []node
		want int
	}{
		{"nothing", nil, 0},
		{"sent", []node{1: up(sends(first, 8, cargo()...))}, 8},
		{"as many as may be", []node{1: up(sends(first, 64, cargo()...))}, 64},
		{"given", []node{1: giver()}, 8},
		{"given an odd number", []node{1: up(sends(first, 7, cargo()...), gives(first, 3, 3, 1))}, 7},
		{"taken, not told", []node{1: giver(), 3: up(takes(first, 1, 4, 1))}, 8},
		{"taken, and told", []node{1: giver(given(first, 1)), 3: up(takes(first, 1, 4, 1))}, 8},
		{"told, not taken", []node{1: giver(given(first, 1))}, 4},
		{"one passed on", []node{1: giver(), 3: up(takes(first, 1, 4, 1), gives(first, 0, 2, 1))}, 8},
		{"one passed on and taken", []node{up(takes(first, 3, 2, 1)), giver(), up(), up(takes(first, 1, 4, 1), gives(first, 0, 2, 1))}, 8},
		{"given back", []node{1: giver(given(first, 1), takes(first, 3, 2, 1)), 3: up(takes(first, 1, 4, 1), gives(first, 1, 2, 1))}, 8},
		{"given twice", []node{up(), giver(given(first, 1), gives(first, 0, 2, 2)), up(), up(takes(first, 1, 4, 1))}, 8},

		{"known there, by a symbol", []node{1: giver(), 3: up(keeps(first, 0, 1, 2))}, 8},
		{"taken there of another place", []node{1: giver(), 3: up(takes(first, 0, 5, 1))}, 13},
		{"taken there by another try", []node{1: giver(), 3: up(takes(first, 1, 5, 2))}, 13},
		{"taken there among others", []node{1: giver(), 3: up(takes(first, 0, 1, 1), takes(first, 1, 4, 1), takes(first, 1, 2, 2))}, 11},
		{"taken there of another bundle", []node{1: giver(), 3: up(takes(second, 1, 5, 1))}, 8},
		{"taken elsewhere", []node{1: giver(), 2: up(takes(first, 1, 4, 1))}, 12},
		{"taken there, with another head", []node{1: giver(), 3: up(takes(later(), 1, 4, 1))}, 8},
		{"known there, with another head", []node{1: giver(), 3: up(takes(later(), 0, 4, 1))}, 12},

		{"just in time there", []node{1: giver(), 3: up(ticks(49))}, 8},
		{"too late there", []node{1: giver(), 3: up(ticks(50))}, 4},
		{"much too late there", []node{1: giver(), 3: up(ticks(51))}, 4},
		{"taken, and forgotten there", []node{1: giver(), 3: up(takes(first, 1, 4, 1), ticks(50))}, 4},
		{"too late elsewhere", []node{up(ticks(50)), giver(), up(ticks(1000000)), up()}, 8},
		{"just in time here", []node{1: giver(ticks(49))}, 8},
		{"too late here", []node{1: giver(ticks(50))}, 0},
		{"too late here, taken there", []node{1: giver(ticks(50)), 3: up(takes(first, 1, 4, 1))}, 4},
		{"too late there, by the giver's head", []node{up(takes(far, 3, 2, 1), gives(far, 3, 1, 1)), {}, {}, up(takes(first, 1, 4, 1), ticks(50))}, 2},

		{"purged", []node{1: giver(purges(first))}, 0},
		{"purged, taken there", []node{1: giver(purges(first)), 3: up(takes(first, 1, 4, 1))}, 4},
		{"purged there", []node{1: giver(), 3: up(purges(first))}, 8},
		{"taken, and purged there", []node{1: giver(), 3: up(takes(first, 1, 4, 1), purges(first))}, 4},
		{"taken, and delivered there", []node{1: up(sends(small(), 8, 9), gives(small(), 2, 4, 1)), 2: up(takes(small(), 1, 4, 1), keeps(small(), 0, 9), delivers(small(), 9))}, 4},
		{"delivered there", []node{1: up(sends(small(), 8, 9), gives(small(), 2, 4, 1)), 2: up(keeps(small(), 0, 9), delivers(small(), 9))}, 8},

		{"others", []node{1: up(sends(first, 8, cargo()...), sends(second, 5, cargo()...), gives(second, 3, 2, 1)), 3: up(sends(other, 7, 9), takes(second, 1, 2, 1))}, 8},
		{"others alone", []node{1: {}, 3: up(sends(other, 7, 9), takes(second, 1, 2, 1))}, 0},
		{"given by the node that stands first", []node{up(takes(first, 1, 6, 1), gives(first, 3, 3, 1)), {}, {}, up()}, 6},
		{"given to the node that stands first", []node{up(takes(first, 3, 2, 1)), {}, {}, up(takes(first, 1, 4, 1), gives(first, 0, 2, 1))}, 4},

		{"at nodes that are down", []node{1: away("", giver()), 3: down("", takes(first, 1, 4, 1))}, 8},
		{"given by a node that is down", []node{1: away("", giver())}, 8},
		{"too late at a node that is down", []node{1: giver(), 3: down("", ticks(50))}, 4},
		{"the sending waits", []node{1: down(lines(sends(first, 8, cargo()...)))}, 8},
		{"the giving waits", []node{1: down(lines(gives(first, 3, 4, 1)), sends(first, 8, cargo()...)), 3: up(takes(first, 1, 4, 1))}, 8},
		{"the taking waits", []node{1: giver(), 3: down(lines(takes(first, 1, 4, 1)))}, 8},
		{"the taking waits, of more", []node{1: giver(), 3: down(lines(takes(first, 1, 9, 1)))}, 13},
		{"the taking waits, cut short", []node{1: giver(), 3: down(strings.TrimSuffix(lines(takes(first, 1, 9, 1)), "\n"))}, 8},
		{"the clock waits", []node{1: giver(), 3: down(lines(ticks(50)))}, 4},
		{"the clock waits, cut short", []node{1: giver(), 3: down("8 0 50 0 0 0 0 0 0 0 0 - -")}, 8},
		{"the clock waits behind what is no record", []node{1: giver(), 3: down("\n" + lines(ticks(50)))}, 8},
		{"the clock waits behind as many as may be", []node{1: giver(), 3: down(lines(ticks(50)), filler(200)...)}, 8},
		{"the clock waits, the last one that may be", []node{1: giver(), 3: down(lines(ticks(50), ticks(51)), filler(199)...)}, 4},

		{"can't be replayed here", []node{1: down("", sends(first, 8, cargo()...), sends(first, 8, cargo()...)), 3: up(takes(first, 1, 4, 1))}, 4},
		{"can't be replayed there", []node{1: giver(), 3: down("", takes(first, 1, 4, 1), takes(first, 1, 4, 1))}, 8},
		{"can't be replayed there, too late by its clock", []node{1: giver(), 3: down("", ticks(60), ticks(60))}, 8},
		{"can't be replayed here, for what waits", []node{1: away(lines(gives(first, 3, 2, 2)), giver())}, 0},
		{"can't be replayed there, for what waits", []node{1: giver(), 3: down(lines(ticks(50), ticks(50)), takes(first, 1, 4, 1))}, 8},
		{"what can't be replayed waits cut short", []node{1: giver(), 3: down(lines(ticks(50), ticks(50))[:45], takes(first, 1, 4, 1))}, 4},
	} {
		n, e := Shares(worldOf(t, c.l...), 1, 0)
		if n != c.want || e != api.OK {
			t.Errorf("%s: %d, %d, want %d", c.name, n, e, c.want)
		}
	}
}

// small: a bundle of one byte in the first one's stead.
func small() api.Head {
	h := first
	h.P = other.P
	return h
}

// P12.2: of each bundle apart, and of none that there is nowhere.
func TestSharesOfEach(t *testing.T) {
	w := worldOf(t,
		up(takes(second, 3, 1, 1)),
		up(sends(first, 8, cargo()...), sends(second, 5, cargo()...), gives(second, 3, 2, 1)),
		up(),
		up(sends(other, 7, 9), takes(second, 1, 2, 1), gives(second, 0, 1, 1)))
	want := map[[2]int]int{{1, 0}: 8, {1, 1}: 5, {3, 0}: 7}
	odd := []int{-1, 4, 7, 50, 51, math.MinInt, math.MaxInt}
	for _, from := range append(odd, 0, 1, 2, 3) {
		for _, seq := range append(slices.Clone(odd), 0, 1, 2, 49) {
			if n, e := Shares(w, from, seq); n != want[[2]int{from, seq}] || e != api.OK {
				t.Errorf("%d, %d: %d, %d, want %d", from, seq, n, e, want[[2]int{from, seq}])
			}
			if n, e := Shares(world.New(), from, seq); n != 0 || e != api.OK {
				t.Errorf("new: %d, %d: %d, %d", from, seq, n, e)
			}
		}
	}
}

// P12.2: Check's error, whichever bundle it is.
func TestSharesErrors(t *testing.T) {
	for name, c := range wrongWorlds(t) {
		for _, b := range [][2]int{{1, 0}, {1, 1}, {3, 0}, {7, 0}, {-1, -1}} {
			if n, e := Shares(c.w, b[0], b[1]); n != 0 || e != c.want {
				t.Errorf("%s, %v: %d, %d, want %d", name, b, n, e, c.want)
			}
		}
	}
}
