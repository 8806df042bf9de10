package level_test

import (
	"math"
	"slices"
	"testing"

	"orrery/api"
	"orrery/level"
)

// rows are the needs of things.
type rows = [][]int

// dice tells the same numbers in each run.
type dice uint64

// roll is a number below n.
func (d *dice) roll(n int) int {
	*d = *d*6364136223846793005 + 1442695040888963407
	return int(uint64(*d) >> 33 % uint64(n))
}

// mixed is the numbers below n, in any order.
func (d *dice) mixed(n int) []int {
	l := make([]int, n)
	for i := range l {
		at := d.roll(i + 1)
		l[i], l[at] = l[at], i
	}
	return l
}

// needs is n things, each of which needs up to most others, itself too, in any order, and also more than once.
func (d *dice) needs(n, most int) rows {
	needs := make(rows, n)
	for i := range needs {
		for range d.roll(most + 1) {
			needs[i] = append(needs[i], d.roll(n))
		}
	}
	return needs
}

// loose is the same, without a round: things need only those that stand ahead of them in some order.
func (d *dice) loose(n, most int) rows {
	needs := make(rows, n)
	order := d.mixed(n)
	for i, thing := range order {
		for range d.roll(most + 1) {
			if i > 0 {
				needs[thing] = append(needs[thing], order[d.roll(i)])
			}
		}
	}
	return needs
}

// each tells all needs of n things in which no row has a number twice, rising.
func each(n int, tell func(needs rows)) {
	for code := range 1 << (n * n) {
		needs := make(rows, n)
		for i := range n * n {
			if code>>i&1 == 1 {
				needs[i/n] = append(needs[i/n], i%n)
			}
		}
		tell(needs)
	}
}

// all tells all needs of up to four things, and many others of more, some with a round, some without.
func all(tell func(needs rows)) {
	for n := range 5 {
		each(n, tell)
	}
	d := dice(7)
	for range 3000 {
		tell(d.needs(1+d.roll(12), 2))
		tell(d.needs(1+d.roll(12), 4))
		tell(d.loose(1+d.roll(12), 4))
		tell(d.loose(1+d.roll(40), 6))
	}
}

// copied is a copy of needs that shares nothing with it.
func copied(needs rows) rows {
	so := make(rows, len(needs))
	for i, row := range needs {
		so[i] = slices.Clone(row)
	}
	return so
}

// same tells whether both are one, none and empty being alike.
func same(a, b rows) bool { return slices.EqualFunc(a, b, slices.Equal[[]int]) }

// told is the things in order, as far as it goes on, and of each whether it is told, as the document tells it.
func told(needs rows) ([]int, []bool) {
	var order []int
	is := make([]bool, len(needs))
	free := func(i int) bool {
		return !is[i] && !slices.ContainsFunc(needs[i], func(need int) bool { return !is[need] })
	}
	for again := true; again; {
		again = false
		for i := range needs {
			if free(i) {
				is[i], again = true, true
				order = append(order, i)
				break
			}
		}
	}
	return order, is
}

// around is the round of needs, as the document tells it.
func around(needs rows) ([]int, bool) {
	_, is := told(needs)
	at := slices.Index(is, false)
	if at < 0 {
		return nil, false
	}
	var way []int
	for !slices.Contains(way, at) {
		way = append(way, at)
		next := -1
		for _, need := range needs[at] {
			if !is[need] && (next < 0 || need < next) {
				next = need
			}
		}
		at = next
	}
	return way[slices.Index(way, at):], true
}

// reached is what from reaches: more is added till nothing is.
func reached(needs rows, from ...int) []bool {
	is := make([]bool, len(needs))
	for _, i := range from {
		is[i] = true
	}
	for again := true; again; {
		again = false
		for i, row := range needs {
			for _, need := range row {
				if is[i] && !is[need] {
					is[need], again = true, true
				}
			}
		}
	}
	return is
}

// hasRound tells whether some thing comes again on some way from it.
func hasRound(needs rows) bool {
	for i := range needs {
		if reached(needs, needs[i]...)[i] {
			return true
		}
	}
	return false
}

// longest is how many things the longest row of needs from thing has, each row gone through to its end.
func longest(needs rows, thing int) int {
	most := 0
	for _, need := range needs[thing] {
		most = max(most, longest(needs, need))
	}
	return most + 1
}

// chain is things each of which needs the next one, or, turned, the one ahead of it.
func chain(n int, turned bool) rows {
	needs := make(rows, n)
	for i := range n - 1 {
		if turned {
			needs[i+1] = []int{i}
		} else {
			needs[i] = []int{i + 1}
		}
	}
	return needs
}

// count is the numbers below n, rising, or falling, if turned.
func count(n int, turned bool) []int {
	l := make([]int, n)
	for i := range l {
		l[i] = i
		if turned {
			l[i] = n - 1 - i
		}
	}
	return l
}

// wrong are needs that may not be; those of most of them have a round, too.
func wrong() []rows {
	return []rows{
		{{-1}},
		{{1}},
		{{2}},
		{nil, {2}},
		{nil, {-1}},
		{{0}, {2}},
		{{1}, {0, -1}},
		{{1}, {0}, {3}},
		{{1, 7}, {0}},
		{{0, -1}},
		{{0, 1}},
		{nil, nil, {0, 1, 3}},
		{nil, nil, {0, 1, -3}},
		{{math.MaxInt}},
		{{math.MinInt}},
		{nil, {math.MaxInt32, 0}},
		{nil, {math.MinInt32, 0}},
		{{1 << 16}, nil},
		{{-1 << 16}, nil},
	}
}

// wantOrder holds Order's answer.
func wantOrder(t *testing.T, needs rows, want []int, e api.Errno) {
	t.Helper()
	if order, is := level.Order(needs); !slices.Equal(order, want) || is != e {
		t.Errorf("Order(%v) = %v, %d, want %v, %d", needs, order, is, want, e)
	}
}

// wantDepth holds Depth's answer.
func wantDepth(t *testing.T, needs rows, want []int, e api.Errno) {
	t.Helper()
	if depth, is := level.Depth(needs); !slices.Equal(depth, want) || is != e {
		t.Errorf("Depth(%v) = %v, %d, want %v, %d", needs, depth, is, want, e)
	}
}

// wantRound holds Round's answer; of none it is false.
func wantRound(t *testing.T, needs rows, want ...int) {
	t.Helper()
	if round, is := level.Round(needs); !slices.Equal(round, want) || is != (len(want) > 0) {
		t.Errorf("Round(%v) = %v, %v, want %v", needs, round, is, want)
	}
}

// wantLayers holds what Layers tells.
func wantLayers(t *testing.T, depth []int, want ...[]int) {
	t.Helper()
	if layers := level.Layers(depth); !same(layers, want) {
		t.Errorf("Layers(%v) = %v, want %v", depth, layers, want)
	}
}

// wantReach holds what is reached against the things of want.
func wantReach(t *testing.T, needs rows, from, want []int) {
	t.Helper()
	is := make([]bool, len(needs))
	for _, i := range want {
		is[i] = true
	}
	if reach, e := level.Reach(needs, from...); !slices.Equal(reach, is) || e != api.OK {
		t.Errorf("Reach(%v, %v) = %v, %d, want %v", needs, from, reach, e, is)
	}
}

// The chapter's examples.
func TestExamples(t *testing.T) {
	needs := rows{{2}, nil, {1}}
	wantOrder(t, needs, []int{1, 2, 0}, api.OK)
	wantDepth(t, needs, []int{2, 0, 1}, api.OK)
	wantLayers(t, []int{2, 0, 1}, []int{1}, []int{2}, []int{0})
	wantRound(t, needs)

	needs = rows{{1}, {2, 0}, nil}
	wantOrder(t, needs, nil, api.ErrLoop)
	wantDepth(t, needs, nil, api.ErrLoop)
	wantRound(t, needs, 0, 1)

	needs = rows{{0}}
	wantOrder(t, needs, nil, api.ErrLoop)
	wantDepth(t, needs, nil, api.ErrLoop)
	wantRound(t, needs, 0)
}

// P7.1: no things, things without needs, and all numbers near the edges at each place.
func TestMay(t *testing.T) {
	for _, needs := range []rows{nil, {}, {nil}, {{}}, {nil, {}, nil}, {{0}}, {{0, 0, 0}}, {{1}, {0}}, {{2, 1, 0, 1}, nil, {0}}} {
		if !level.May(needs) {
			t.Errorf("May(%v) = false", needs)
		}
	}
	for _, needs := range wrong() {
		if level.May(needs) {
			t.Errorf("May(%v) = true", needs)
		}
	}
	for n := 1; n < 6; n++ {
		for at := range n * n {
			for number := -3; number < n+3; number++ {
				needs := make(rows, n)
				for i := range needs {
					needs[i] = make([]int, n)
				}
				needs[at/n][at%n] = number
				if is := level.May(needs); is != (number >= 0 && number < n) {
					t.Errorf("May(%v) = %v", needs, is)
				}
			}
		}
	}
}

// P7.1: a round hinders nothing.
func TestMayAll(t *testing.T) {
	all(func(needs rows) {
		if !level.May(needs) {
			t.Fatalf("May(%v) = false", needs)
		}
	})
}

// P7.2: the edges, one by one.
func TestOrderEdges(t *testing.T) {
	for _, one := range []struct {
		needs        rows
		order, depth []int
	}{
		{nil, nil, nil},
		{rows{}, nil, nil},
		{rows{nil}, []int{0}, []int{0}},
		{rows{{}}, []int{0}, []int{0}},
		{rows{nil, nil, nil}, []int{0, 1, 2}, []int{0, 0, 0}},
		// One thing is needed several times.
		{rows{{1, 1, 1}, nil}, []int{1, 0}, []int{1, 0}},
		{rows{{2, 1, 2, 1}, {2, 2}, nil}, []int{2, 1, 0}, []int{2, 1, 0}},
		// Things become free late, and are less than others that could come.
		{rows{{3}, nil, nil, nil}, []int{1, 2, 3, 0}, []int{1, 0, 0, 0}},
		{rows{{1}, nil, nil, nil}, []int{1, 0, 2, 3}, []int{1, 0, 0, 0}},
		{rows{{4}, {0}, nil, nil, {2}, nil}, []int{2, 3, 4, 0, 1, 5}, []int{2, 3, 0, 0, 1, 0}},
		// A need that is told first does not free what needs another one, too.
		{rows{{1, 3}, nil, nil, nil}, []int{1, 2, 3, 0}, []int{1, 0, 0, 0}},
		// The longest way counts, wherever it stands in the row.
		{rows{{3, 1}, {2}, {3}, nil}, []int{3, 2, 1, 0}, []int{3, 2, 1, 0}},
		{rows{{1, 3}, {2}, {3}, nil}, []int{3, 2, 1, 0}, []int{3, 2, 1, 0}},
		{rows{nil, {0}, {0, 1}, {1, 0}, {3, 2, 0}}, []int{0, 1, 2, 3, 4}, []int{0, 1, 2, 2, 3}},
	} {
		wantOrder(t, one.needs, one.order, api.OK)
		wantDepth(t, one.needs, one.depth, api.OK)
	}
}

// P7.2: numbers that are no thing's, also where there is a round; rounds of one, of several, and several.
func TestOrderRefused(t *testing.T) {
	for _, needs := range wrong() {
		wantOrder(t, needs, nil, api.ErrArg)
		wantDepth(t, needs, nil, api.ErrArg)
	}
	for _, needs := range []rows{
		{{0}},
		{{0, 0}},
		{nil, {1}},
		{{1}, {0}},
		{{1}, {2}, {0}},
		{nil, nil, {3}, {2}, nil},
		{{1}, {0}, {3}, {2}},
		{{1}, {1}, nil},
		{nil, {0, 2}, {0, 1}},
	} {
		wantOrder(t, needs, nil, api.ErrLoop)
		wantDepth(t, needs, nil, api.ErrLoop)
	}
}

// P7.2, P7.6: all things, in order, told as the document tells it.
func TestOrderAll(t *testing.T) {
	all(func(needs rows) {
		want, _ := told(needs)
		if len(want) < len(needs) {
			wantOrder(t, needs, nil, api.ErrLoop)
			return
		}
		wantOrder(t, needs, want, api.OK)
	})
}

// P7.2, P7.7: a thing's depth is one less than the things of the longest row of needs from it.
func TestDepthAll(t *testing.T) {
	for n := range 5 {
		each(n, func(needs rows) { depthIsLongest(t, needs) })
	}
	d := dice(11)
	for range 2000 {
		depthIsLongest(t, d.loose(1+d.roll(14), 3))
	}
}

// depthIsLongest holds Depth against the longest rows, and against what each thing needs.
func depthIsLongest(t *testing.T, needs rows) {
	t.Helper()
	if hasRound(needs) {
		wantDepth(t, needs, nil, api.ErrLoop)
		return
	}
	want := make([]int, len(needs))
	for i := range needs {
		want[i] = longest(needs, i) - 1
	}
	wantDepth(t, needs, want, api.OK)
}

// P7.6: each thing stands once, behind all that it needs; the lesser of two that could both come next comes.
func TestOrderFollows(t *testing.T) {
	d := dice(3)
	for range 2000 {
		needs := d.loose(1+d.roll(30), 5)
		order, e := level.Order(needs)
		if e != api.OK || !slices.Equal(slices.Sorted(slices.Values(order)), count(len(needs), false)) {
			t.Fatalf("Order(%v) = %v, %d", needs, order, e)
		}
		place := make([]int, len(needs))
		for at, thing := range order {
			place[thing] = at
		}
		// A thing could come from behind the last one that it needs on.
		from := make([]int, len(needs))
		for thing, row := range needs {
			for _, need := range row {
				from[thing] = max(from[thing], place[need]+1)
			}
			if from[thing] > place[thing] {
				t.Fatalf("Order(%v) = %v: %d is ahead of what it needs", needs, order, thing)
			}
		}
		for at, thing := range order {
			for _, later := range order[at+1:] {
				if from[later] <= at && later < thing {
					t.Fatalf("Order(%v) = %v: %d could come ahead of %d", needs, order, later, thing)
				}
			}
		}
	}
}

// P7.7: there is an order just if there is no round; then, and only then, Round tells none.
func TestOrderJustIfNoRound(t *testing.T) {
	all(func(needs rows) {
		has := hasRound(needs)
		_, of := level.Order(needs)
		_, deep := level.Depth(needs)
		_, is := level.Round(needs)
		if (of == api.ErrLoop) != has || (deep == api.ErrLoop) != has || is != has {
			t.Fatalf("of %v, round %v: Order %d, Depth %d, Round %v", needs, has, of, deep, is)
		}
	})
}

// P7.7: of few things, all orders are tried.
func TestOrderAmongAll(t *testing.T) {
	for n := range 5 {
		var orders [][]int
		permute(count(n, false), 0, func(order []int) { orders = append(orders, slices.Clone(order)) })
		each(n, func(needs rows) {
			is := slices.ContainsFunc(orders, func(order []int) bool { return isOrder(needs, order) })
			if order, e := level.Order(needs); (e == api.OK) != is || is && !isOrder(needs, order) {
				t.Errorf("Order(%v) = %v, %d, but there is one: %v", needs, order, e, is)
			}
		})
	}
}

// permute tells l with all that is from at on in each order.
func permute(l []int, at int, tell func(l []int)) {
	if at == len(l) {
		tell(l)
		return
	}
	for i := at; i < len(l); i++ {
		l[at], l[i] = l[i], l[at]
		permute(l, at+1, tell)
		l[at], l[i] = l[i], l[at]
	}
}

// isOrder tells whether each thing stands behind all that it needs.
func isOrder(needs rows, order []int) bool {
	for at, thing := range order {
		for _, need := range needs[thing] {
			if !slices.Contains(order[:at], need) {
				return false
			}
		}
	}
	return len(order) == len(needs)
}

// P7.2, P7.4: long chains, forwards and backwards, a thing that needs all others, and one that all others need.
func TestLong(t *testing.T) {
	const many = 1 << 17
	for _, turned := range []bool{false, true} {
		needs := chain(many, turned)
		order, e := level.Order(needs)
		if e != api.OK || !slices.Equal(order, count(many, !turned)) {
			t.Errorf("Order of a chain, turned %v: error %d, or wrong", turned, e)
		}
		depth, e := level.Depth(needs)
		if e != api.OK || !slices.Equal(depth, count(many, !turned)) {
			t.Errorf("Depth of a chain, turned %v: error %d, or wrong", turned, e)
		}
		if round, is := level.Round(needs); is || len(round) != 0 {
			t.Errorf("Round of a chain, turned %v: %v", turned, is)
		}
	}
	needs := chain(many, false)
	needs[many-1] = []int{0}
	if round, is := level.Round(needs); !is || !slices.Equal(round, count(many, false)) {
		t.Errorf("Round of a chain that is closed: %v, %d things", is, len(round))
	}
	reach, e := level.Reach(needs, many/2)
	if e != api.OK || len(reach) != many || slices.Contains(reach, false) {
		t.Errorf("Reach of a chain that is closed: error %d, or wrong", e)
	}
	needs[many-1] = []int{many - 1}
	wantLong(t, needs, many-1)
	needs = make(rows, many)
	needs[0] = count(many, true)[:many-1]
	if order, e := level.Order(needs); e != api.OK || order[many-1] != 0 || order[0] != 1 {
		t.Errorf("Order of a thing that needs all others: error %d, or wrong", e)
	}
	for i := range many {
		needs[i] = []int{many - 1}
	}
	needs[many-1] = nil
	if order, e := level.Order(needs); e != api.OK || order[0] != many-1 || order[1] != 0 || order[many-1] != many-2 {
		t.Errorf("Order of things that all need one: error %d, or wrong", e)
	}
}

// wantLong is wantRound for needs that are too many to be told.
func wantLong(t *testing.T, needs rows, want ...int) {
	t.Helper()
	if round, is := level.Round(needs); !is || !slices.Equal(round, want) {
		t.Errorf("Round of %d things: %v, %d things, want %v", len(needs), is, len(round), want)
	}
}

// P7.3: the edges, one by one.
func TestLayersEdges(t *testing.T) {
	wantLayers(t, nil)
	wantLayers(t, []int{})
	wantLayers(t, []int{0}, []int{0})
	wantLayers(t, []int{0, 0, 0}, []int{0, 1, 2})
	wantLayers(t, []int{1, 0, 1, 0}, []int{1, 3}, []int{0, 2})
	// Numbers below 0 count for nothing.
	wantLayers(t, []int{-1})
	wantLayers(t, []int{-1, -2, math.MinInt})
	wantLayers(t, []int{-1, 0, math.MinInt, 1, 0}, []int{1, 4}, []int{3})
	// No thing has some of the depths.
	wantLayers(t, []int{2}, nil, nil, []int{0})
	wantLayers(t, []int{3, 0, 3, -1}, []int{1}, nil, nil, []int{0, 2})
	wantLayers(t, []int{1, 4, 1}, nil, []int{0, 2}, nil, nil, []int{1})
}

// P7.3: each layer of any depths, thing by thing.
func TestLayersAll(t *testing.T) {
	d := dice(5)
	for range 5000 {
		depth := make([]int, d.roll(20))
		for i := range depth {
			depth[i] = d.roll(12) - 3
		}
		var want rows
		for i := range max(0, slices.Max(append([]int{-1}, depth...))+1) {
			var layer []int
			for thing, deep := range depth {
				if deep == i {
					layer = append(layer, thing)
				}
			}
			want = append(want, layer)
		}
		wantLayers(t, depth, want...)
	}
}

// P7.3: a great depth of few things; one beyond all that can be told ends, too.
func TestLayersGreat(t *testing.T) {
	const great = 1 << 20
	layers := level.Layers([]int{great, -great, 7, great})
	if len(layers) != great+1 || !slices.Equal(layers[great], []int{0, 3}) || !slices.Equal(layers[7], []int{2}) {
		t.Errorf("Layers up to %d tells %d", great, len(layers))
	}
	level.Layers([]int{math.MaxInt})
	level.Layers([]int{0, math.MaxInt - 1, 3})
}

// P7.4: the edges, one by one.
func TestRoundEdges(t *testing.T) {
	for _, needs := range []rows{nil, {}, {nil}, {nil, nil}, {{1}, nil}, {nil, {0, 0}}, chain(9, false), chain(9, true)} {
		wantRound(t, needs)
	}
	for _, needs := range wrong() {
		wantRound(t, needs)
	}
	wantRound(t, rows{{0, 0}}, 0)
	wantRound(t, rows{nil, {1}}, 1)
	wantRound(t, rows{{1}, {2}, {0}}, 0, 1, 2)
	wantRound(t, rows{{2}, {0}, {1}}, 0, 2, 1)
	// Several rounds: the least thing's.
	wantRound(t, rows{{3}, {2}, {1}, {0}}, 0, 3)
	wantRound(t, rows{nil, {4, 0}, {3}, {2}, {1}}, 1, 4)
	wantRound(t, rows{{0}, {1}}, 0)
	// The least thing left leads to a round, and is no part of it.
	wantRound(t, rows{{1}, {1}}, 1)
	wantRound(t, rows{{4}, nil, {3}, {2}, {2}}, 2, 3)
	wantRound(t, rows{{1}, {3}, nil, {5}, nil, {3}}, 3, 5)
	wantRound(t, rows{{4}, {2}, {1}, {2}, {3}}, 2, 1)
	// Of several needs that are left the least one, wherever it stands; what is told does not count.
	wantRound(t, rows{{2, 1}, {0}, {0}}, 0, 1)
	wantRound(t, rows{{1, 2}, {0}, {0}}, 0, 1)
	wantRound(t, rows{{3, 2, 3, 2}, nil, {0}, {0}}, 0, 2)
	wantRound(t, rows{nil, {0, 3, 2}, {1, 0}, {1}}, 1, 2)
	wantRound(t, rows{{1, 2}, nil, {0, 1}}, 0, 2)
	wantRound(t, rows{{3, 0}, nil, nil, {0}}, 0)
	wantRound(t, rows{{1}, {2, 0}, {1, 2}}, 0, 1)
	// A need without needs of its own is told late, but is told.
	wantRound(t, rows{{3}, {0, 2}, {3, 1}, nil}, 1, 2)
	// A thing is left, and in no round.
	wantRound(t, rows{{1}, {0}, {0}}, 0, 1)
	wantRound(t, rows{{2}, {2}, {3}, {2}, {0, 1}}, 2, 3)
}

// P7.4: what the document tells, word by word; and it is a round, of things of which none is there twice.
func TestRoundAll(t *testing.T) {
	all(func(needs rows) {
		want, has := around(needs)
		wantRound(t, needs, want...)
		round, is := level.Round(needs)
		if is != has {
			t.Fatalf("Round(%v): %v", needs, is)
		}
		for i, thing := range round {
			if !slices.Contains(needs[thing], round[(i+1)%len(round)]) || slices.Contains(round[:i], thing) {
				t.Fatalf("Round(%v) = %v: none at %d", needs, round, i)
			}
		}
	})
}

// P7.4: rows in any order, and with things twice, tell the same.
func TestRoundHangsOnNoOrderOfRows(t *testing.T) {
	d := dice(13)
	for range 3000 {
		needs := d.needs(1+d.roll(12), 4)
		other := copied(needs)
		for i, row := range other {
			slices.Reverse(row)
			other[i] = append(row, needs[i]...)
		}
		round, is := level.Round(needs)
		if again, so := level.Round(other); !slices.Equal(round, again) || is != so {
			t.Fatalf("Round(%v) = %v, Round(%v) = %v", needs, round, other, again)
		}
		order, e := level.Order(needs)
		if again, so := level.Order(other); !slices.Equal(order, again) || e != so {
			t.Fatalf("Order(%v) = %v, Order(%v) = %v", needs, order, other, again)
		}
	}
}

// P7.5: the edges, one by one.
func TestReachEdges(t *testing.T) {
	wantReach(t, nil, nil, nil)
	wantReach(t, rows{}, []int{}, nil)
	wantReach(t, rows{nil}, nil, nil)
	wantReach(t, rows{{0}, {0}}, nil, nil)
	wantReach(t, rows{nil}, []int{0}, []int{0})
	// Over several steps, also in no order of numbers; not against the needs.
	wantReach(t, rows{{2}, nil, {1}}, []int{0}, []int{0, 1, 2})
	wantReach(t, rows{{2}, nil, {1}}, []int{2}, []int{1, 2})
	wantReach(t, rows{{2}, nil, {1}}, []int{1}, []int{1})
	wantReach(t, rows{{3}, {0}, nil, {2}, nil}, []int{1}, []int{0, 1, 2, 3})
	// From several, from one twice.
	wantReach(t, rows{{1}, nil, {3}, nil, nil}, []int{2, 0}, []int{0, 1, 2, 3})
	wantReach(t, rows{{1}, nil, {3}, nil}, []int{2, 2}, []int{2, 3})
	wantReach(t, rows{{1, 1}, nil, {0}}, []int{0, 1, 0}, []int{0, 1})
	// Over rounds.
	wantReach(t, rows{{0}, nil}, []int{0}, []int{0})
	wantReach(t, rows{{1}, {0}, {0}}, []int{1}, []int{0, 1})
	wantReach(t, rows{{1}, {2}, {0, 3}, {4}, nil, {0}}, []int{1}, []int{0, 1, 2, 3, 4})
}

// P7.5: from each choice of things what is reached, told till nothing is added.
func TestReachAll(t *testing.T) {
	d := dice(17)
	all(func(needs rows) {
		var from []int
		for range d.roll(4) {
			if len(needs) > 0 {
				from = append(from, d.roll(len(needs)))
			}
		}
		if reach, e := level.Reach(needs, from...); e != api.OK || !slices.Equal(reach, reached(needs, from...)) {
			t.Fatalf("Reach(%v, %v) = %v, %d", needs, from, reach, e)
		}
	})
}

// P7.5: needs that may not be, from any thing and from none; numbers that are no thing's, at each place.
func TestReachRefused(t *testing.T) {
	refused := func(needs rows, from ...int) {
		t.Helper()
		if reach, e := level.Reach(needs, from...); e != api.ErrArg || len(reach) != 0 {
			t.Errorf("Reach(%v, %v) = %v, %d, want none, %d", needs, from, reach, e, api.ErrArg)
		}
	}
	for _, needs := range wrong() {
		refused(needs)
		refused(needs, 0)
		refused(needs, -1)
	}
	for _, needs := range []rows{{nil, {0}, nil}, {{1}, {0}, {2}}} {
		for _, no := range []int{-1, -2, 3, 4, math.MaxInt, math.MinInt, math.MaxInt32} {
			refused(needs, no)
			refused(needs, no, 1)
			refused(needs, 0, no)
			refused(needs, 0, no, 2)
			refused(needs, 0, 1, 2, no)
		}
	}
	refused(nil, 0)
	refused(nil, -1)
	refused(rows{}, 0)
}

// R3: what is handed in stays, also behind its end, and nothing of what is told changes it, or a later answer.
func TestNothingIsKept(t *testing.T) {
	for _, of := range []rows{{{2}, nil, {1, 1}}, {{1}, {2, 0}, nil}, {{3, 2}, {3}, nil, {2}}, {{4}, {2}, {1}, {2}, {3}}} {
		// Each row has room behind its end.
		needs := make(rows, len(of), 2*len(of))
		for i, row := range of {
			needs[i] = append(make([]int, 0, 8), row...)
			spoil(needs[i][len(row):])
		}
		from := append(make([]int, 0, 8), 1, 0)
		spoil(from[2:])
		stays := func(call string) {
			t.Helper()
			for i, row := range needs {
				if !slices.Equal(row, of[i]) || !isSpoilt(row[len(row):]) {
					t.Errorf("%s changes %v to %v", call, of, needs)
				}
			}
			if !slices.Equal(from, []int{1, 0}) || !isSpoilt(from[2:]) {
				t.Errorf("%s changes from to %v", call, from)
			}
		}
		level.May(needs)
		stays("May")
		for range 2 {
			order, _ := level.Order(needs)
			if want, is := told(of); !slices.Contains(is, false) && !slices.Equal(order, want) {
				t.Errorf("Order(%v) = %v", of, order)
			}
			spoil(order)
			stays("Order")
			depth, _ := level.Depth(needs)
			spoil(depth)
			stays("Depth")
			round, _ := level.Round(needs)
			if want, _ := around(of); !slices.Equal(round, want) {
				t.Errorf("Round(%v) = %v", of, round)
			}
			spoil(round)
			stays("Round")
			reach, _ := level.Reach(needs, from...)
			if !slices.Equal(reach, reached(of, 1, 0)) {
				t.Errorf("Reach(%v) = %v", of, reach)
			}
			clear(reach[:cap(reach)])
			stays("Reach")
		}
	}
}

// P7.3: no two layers share memory, nor does one share it with the depths.
func TestLayersShareNothing(t *testing.T) {
	depth := append(make([]int, 0, 40), 3, 0, 1, 1, 0, 3, 0, 1, 1, 1, 5)
	spoil(depth[len(depth):])
	want := rows{{1, 4, 6}, {2, 3, 7, 8, 9}, nil, {0, 5}, nil, {10}}
	for at := range want {
		layers := level.Layers(depth)
		spoil(layers[at])
		for i, layer := range layers {
			if i != at && !slices.Equal(layer, want[i]) {
				t.Errorf("layer %d is %v, since layer %d was changed", i, layer, at)
			}
		}
		if !slices.Equal(depth, []int{3, 0, 1, 1, 0, 3, 0, 1, 1, 1, 5}) || !isSpoilt(depth[len(depth):]) {
			t.Errorf("the depths are %v", depth)
		}
	}
}

// spoil writes over all the memory of l, behind its end, too.
func spoil(l []int) {
	l = l[:cap(l)]
	for i := range l {
		l[i] = -77
	}
}

// isSpoilt tells whether all of it still is what spoil wrote.
func isSpoilt(l []int) bool {
	return !slices.ContainsFunc(l[:cap(l)], func(n int) bool { return n != -77 })
}
