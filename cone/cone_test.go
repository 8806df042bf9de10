package cone_test

import (
	"math"
	"slices"
	"testing"

	"orrery/aig"
	"orrery/api"
	"orrery/cone"
	"orrery/lit"
)

// theOptions are all four settings.
func theOptions() []aig.Options {
	return []aig.Options{{}, {Fold: true}, {Hash: true}, {Fold: true, Hash: true}}
}

// plain is a graph's options, if it neither folds nor hashes; both, if it does both.
var (
	plain = aig.Options{}
	both  = aig.Options{Fold: true, Hash: true}
)

// row is literals.
type row = []lit.Lit

// dice tells the same numbers in each run.
type dice uint64

// roll is a number below n.
func (d *dice) roll(n int) int {
	*d = *d*6364136223846793005 + 1442695040888963407
	return int(uint64(*d) >> 33 % uint64(n))
}

// word is any word.
func (d *dice) word() uint64 {
	return uint64(d.roll(1<<31))<<33 ^ uint64(d.roll(1<<31))<<11 ^ uint64(d.roll(1<<31))
}

// words are n of them.
func (d *dice) words(n int) []uint64 {
	w := make([]uint64, n)
	for i := range w {
		w[i] = d.word()
	}
	return w
}

// lits are n literals of nodes below nodes.
func (d *dice) lits(n, nodes int) row {
	l := make(row, n)
	for i := range l {
		l[i] = lit.Lit(d.roll(2 * nodes))
	}
	return l
}

// must is l, where no error may be.
func must(t *testing.T) func(l lit.Lit, e api.Errno) lit.Lit {
	return func(l lit.Lit, e api.Errno) lit.Lit {
		t.Helper()
		if e != api.OK {
			t.Fatalf("error %d", e)
		}
		return l
	}
}

// withInputs is a graph of n inputs.
func withInputs(t *testing.T, o aig.Options, n int) *aig.Graph {
	t.Helper()
	g := aig.New(o)
	for range n {
		must(t)(g.Input())
	}
	return g
}

// withGates is a graph of n inputs, and of these gates, made whatever the options say.
func withGates(t *testing.T, o aig.Options, n int, gates ...[2]lit.Lit) *aig.Graph {
	t.Helper()
	g := withInputs(t, o, n)
	for _, x := range gates {
		must(t)(g.Raw(x[0], x[1]))
	}
	return g
}

// grown is a graph of so many steps: inputs, and gates of all kinds.
func grown(t *testing.T, o aig.Options, d *dice, steps int) *aig.Graph {
	t.Helper()
	g := withInputs(t, o, d.roll(4))
	for range steps {
		l := d.lits(3, g.Nodes())
		switch d.roll(6) {
		case 0:
			must(t)(g.Input())
		case 1:
			must(t)(g.Raw(l[0], l[1]))
		case 2:
			must(t)(g.Mux(l[0], l[1], l[2]))
		case 3:
			must(t)(g.Xor(l[0], l[1]))
		default:
			must(t)(g.And(l[0], l[1]))
		}
	}
	return g
}

// leansOn adds to met all that l leans on, as the document tells it.
func leansOn(g *aig.Graph, l lit.Lit, met map[int]bool) {
	if l.Node() == 0 || met[l.Node()] {
		return
	}
	met[l.Node()] = true
	if a, b, is := g.Gate(l.Node()); is {
		leansOn(g, a, met)
		leansOn(g, b, met)
	}
}

// reachOf is the nodes that one of l leans on, rising.
func reachOf(g *aig.Graph, l ...lit.Lit) []int {
	met := map[int]bool{}
	for _, one := range l {
		leansOn(g, one, met)
	}
	var nodes []int
	for node := range g.Nodes() {
		if met[node] {
			nodes = append(nodes, node)
		}
	}
	return nodes
}

// supportOf is the inputs among these.
func supportOf(g *aig.Graph, l ...lit.Lit) []int {
	return slices.DeleteFunc(reachOf(g, l...), func(node int) bool { return !slices.Contains(g.Inputs(), node) })
}

// depthOf is the greatest depth of l.
func depthOf(g *aig.Graph, l ...lit.Lit) int {
	greatest := 0
	for _, one := range l {
		if a, b, is := g.Gate(one.Node()); is {
			greatest = max(greatest, 1+depthOf(g, a), 1+depthOf(g, b))
		}
	}
	return greatest
}

// wordOf is l's word, if the inputs have these.
func wordOf(g *aig.Graph, inputs []uint64, l lit.Lit) uint64 {
	w := uint64(0)
	if a, b, is := g.Gate(l.Node()); is {
		w = wordOf(g, inputs, a) & wordOf(g, inputs, b)
	} else if at := slices.Index(g.Inputs(), l.Node()); at >= 0 {
		w = inputs[at]
	}
	if l%2 == 1 {
		return ^w
	}
	return w
}

// wordsOf is the words of l.
func wordsOf(g *aig.Graph, inputs []uint64, l ...lit.Lit) []uint64 {
	var words []uint64
	for _, one := range l {
		words = append(words, wordOf(g, inputs, one))
	}
	return words
}

// copyOf copies l as the document tells it: And after And, from the least node on.
func copyOf(to, from *aig.Graph, by, l row) (row, api.Errno) {
	stands := map[int]lit.Lit{0: 0}
	stand := func(l lit.Lit) lit.Lit { return stands[int(l/2)] ^ l%2 }
	inputs := from.Inputs()
	for _, node := range reachOf(from, l...) {
		a, b, is := from.Gate(node)
		if !is {
			stands[node] = by[slices.Index(inputs, node)]
			continue
		}
		made, e := to.And(stand(a), stand(b))
		if e != api.OK {
			return nil, e
		}
		stands[node] = made
	}
	var so row
	for _, one := range l {
		so = append(so, stand(one))
	}
	return so, api.OK
}

// mustTell fails, if Reach, Support, Depth or Words tell of l anything but what the document does, or change anything.
func mustTell(t *testing.T, g *aig.Graph, d *dice, l ...lit.Lit) {
	t.Helper()
	was, given := g.Copy(), slices.Clone(l)
	if nodes, e := cone.Reach(g, l...); e != api.OK || !slices.Equal(nodes, reachOf(g, l...)) {
		t.Fatalf("%v: Reach(%v): %v, error %d, not %v", g.Options(), l, nodes, e, reachOf(g, l...))
	}
	if nodes, e := cone.Support(g, l...); e != api.OK || !slices.Equal(nodes, supportOf(g, l...)) {
		t.Fatalf("%v: Support(%v): %v, error %d, not %v", g.Options(), l, nodes, e, supportOf(g, l...))
	}
	if depth, e := cone.Depth(g, l...); e != api.OK || depth != depthOf(g, l...) {
		t.Fatalf("%v: Depth(%v): %d, error %d, not %d", g.Options(), l, depth, e, depthOf(g, l...))
	}
	in := d.words(len(g.Inputs()))
	givenIn := slices.Clone(in)
	if words, e := cone.Words(g, in, l...); e != api.OK || !slices.Equal(words, wordsOf(g, in, l...)) {
		t.Fatalf("%v: Words(%x, %v): %x, error %d, not %x", g.Options(), in, l, words, e, wordsOf(g, in, l...))
	}
	if !aig.Same(g, was) || !slices.Equal(l, given) || !slices.Equal(in, givenIn) {
		t.Fatalf("%v: of %v something has changed", g.Options(), given)
	}
}

// P4.1, P4.2: of any literals of any graph, under all options.
func TestAsTold(t *testing.T) {
	for _, o := range theOptions() {
		for seed := range uint64(60) {
			d := dice(seed)
			g := grown(t, o, &d, 1+d.roll(12))
			for one := range lit.Lit(2 * g.Nodes()) {
				mustTell(t, g, &d, one)
			}
			for range 10 {
				mustTell(t, g, &d, d.lits(d.roll(5), g.Nodes())...)
			}
		}
	}
}

// edges is a graph of gates of constants, of gates of one node, and of inputs behind gates.
//
// Node 1 is an input; 2 to 4 gates of constants; 5, 6 of node 1 alone; 7 an input; 8 of 1 and 7; 9 of 8 and 5; 10 an input; 11 of 9 and 10; 12 of 11 and 1.
func edges(t *testing.T, o aig.Options) *aig.Graph {
	t.Helper()
	g := withGates(t, o, 1, [][2]lit.Lit{{0, 0}, {1, 1}, {0, 1}, {2, 2}, {2, 3}}...)
	must(t)(g.Input())
	must(t)(g.Raw(2, 14))
	must(t)(g.Raw(17, 10))
	must(t)(g.Input())
	must(t)(g.Raw(18, 21))
	must(t)(g.Raw(23, 2))
	return g
}

// P4.1: the edges that the document names.
func TestEdges(t *testing.T) {
	for _, o := range theOptions() {
		g := edges(t, o)
		for i, x := range []struct {
			l              row
			reach, support []int
			depth          int
		}{
			{nil, nil, nil, 0},
			{row{}, nil, nil, 0},
			{row{0}, nil, nil, 0},
			{row{1}, nil, nil, 0},
			{row{0, 1, 1, 0}, nil, nil, 0},
			{row{2}, []int{1}, []int{1}, 0},
			{row{3}, []int{1}, []int{1}, 0},
			{row{20}, []int{10}, []int{10}, 0},
			{row{20, 14, 2}, []int{1, 7, 10}, []int{1, 7, 10}, 0},
			{row{2, 2, 2}, []int{1}, []int{1}, 0},
			{row{2, 3}, []int{1}, []int{1}, 0},
			{row{4}, []int{2}, nil, 1},
			{row{7}, []int{3}, nil, 1},
			{row{8, 0}, []int{4}, nil, 1},
			{row{10}, []int{1, 5}, []int{1}, 1},
			{row{13}, []int{1, 6}, []int{1}, 1},
			{row{16}, []int{1, 7, 8}, []int{1, 7}, 1},
			{row{19}, []int{1, 5, 7, 8, 9}, []int{1, 7}, 2},
			{row{19, 19, 18}, []int{1, 5, 7, 8, 9}, []int{1, 7}, 2},
			{row{22}, []int{1, 5, 7, 8, 9, 10, 11}, []int{1, 7, 10}, 3},
			{row{24}, []int{1, 5, 7, 8, 9, 10, 11, 12}, []int{1, 7, 10}, 4},
			{row{24, 2}, []int{1, 5, 7, 8, 9, 10, 11, 12}, []int{1, 7, 10}, 4},
			{row{2, 25, 4}, []int{1, 2, 5, 7, 8, 9, 10, 11, 12}, []int{1, 7, 10}, 4},
			{row{20, 16, 4}, []int{1, 2, 7, 8, 10}, []int{1, 7, 10}, 1},
		} {
			if nodes, e := cone.Reach(g, x.l...); e != api.OK || !slices.Equal(nodes, x.reach) {
				t.Errorf("%v, %d: Reach(%v): %v, error %d", o, i, x.l, nodes, e)
			}
			if nodes, e := cone.Support(g, x.l...); e != api.OK || !slices.Equal(nodes, x.support) {
				t.Errorf("%v, %d: Support(%v): %v, error %d", o, i, x.l, nodes, e)
			}
			if depth, e := cone.Depth(g, x.l...); e != api.OK || depth != x.depth {
				t.Errorf("%v, %d: Depth(%v): %d, error %d", o, i, x.l, depth, e)
			}
		}
	}
}

// example is the graph of the document's examples: literals 2, 4, 6 inputs; 8 of 2 and 4; 10 of 8, turned, and 6.
func example(t *testing.T, o aig.Options) *aig.Graph {
	t.Helper()
	g := withInputs(t, o, 3)
	if a, b := must(t)(g.And(2, 4)), must(t)(g.And(9, 6)); a != 8 || b != 10 {
		t.Fatal(a, b)
	}
	return g
}

// The document's examples.
func TestExamples(t *testing.T) {
	for _, o := range theOptions() {
		g := example(t, o)
		if nodes, e := cone.Reach(g, 8); e != api.OK || !slices.Equal(nodes, []int{1, 2, 4}) {
			t.Error(o, nodes, e)
		}
		if nodes, e := cone.Support(g, 10); e != api.OK || !slices.Equal(nodes, []int{1, 2, 3}) {
			t.Error(o, nodes, e)
		}
		if depth, e := cone.Depth(g, 10); e != api.OK || depth != 2 {
			t.Error(o, depth, e)
		}
		for _, fold := range []aig.Options{{Fold: true}, both} {
			to := withInputs(t, fold, 3)
			l, e := cone.Copy(to, g, row{1, 4, 6}, 10)
			if e != api.OK || !slices.Equal(l, row{8}) || to.Gates() != 1 {
				t.Error(o, l, e, to.Gates())
			}
			if a, b, is := to.Gate(4); a != 6 || b != 5 || !is {
				t.Error(o, a, b, is)
			}
		}
	}
}

// P4.1, P4.6: depths along a way of uneven lengths; each gate adds one at most.
func TestUneven(t *testing.T) {
	for _, o := range theOptions() {
		g := withInputs(t, o, 2)
		last := lit.Lit(2)
		for i := range 50 {
			last = must(t)(g.Raw(last.Not(), 4))
			if depth, e := cone.Depth(g, last); e != api.OK || depth != i+1 {
				t.Fatal(o, i, depth, e)
			}
		}
		// Node 3 is of depth 1, and last of depth 50, whichever of the two is the greater literal.
		for _, x := range [][2]lit.Lit{{6, last}, {last, 6}, {2, last}, {0, last}, {last, 1}, {last, last}} {
			l := must(t)(g.Raw(x[0], x[1]))
			if depth, e := cone.Depth(g, 2, l, 6); e != api.OK || depth != 51 {
				t.Error(o, x, depth, e)
			}
		}
	}
}

// P4.1: gates that are met on many ways are told once, and each call ends.
func TestManyWays(t *testing.T) {
	for _, o := range theOptions() {
		g := withInputs(t, o, 1)
		last := lit.Lit(2)
		nodes := []int{1}
		for range 300 {
			a := must(t)(g.Raw(last, last.Not()))
			last = must(t)(g.Raw(a.Not(), last))
			nodes = append(nodes, a.Node(), last.Node())
		}
		if got, e := cone.Reach(g, last, last.Not(), 2); e != api.OK || !slices.Equal(got, nodes) {
			t.Error(o, got, e)
		}
		if got, e := cone.Support(g, last); e != api.OK || !slices.Equal(got, []int{1}) {
			t.Error(o, got, e)
		}
		if depth, e := cone.Depth(g, last); e != api.OK || depth != 600 {
			t.Error(o, depth, e)
		}
		if l, e := cone.Copy(withInputs(t, plain, 1), g, row{2}, last); e != api.OK || !slices.Equal(l, row{last}) {
			t.Error(o, l, e)
		}
	}
}

// P4.1, P4.3: as many gates as may be, one upon the other.
func TestDeep(t *testing.T) {
	g := withInputs(t, both, 2)
	last := lit.Lit(2)
	for range api.MaxGates {
		last = must(t)(g.Raw(last.Not(), 4))
	}
	if nodes, e := cone.Reach(g, last); e != api.OK || len(nodes) != 2+api.MaxGates || nodes[0] != 1 || nodes[1+api.MaxGates] != last.Node() {
		t.Error(len(nodes), e)
	}
	if depth, e := cone.Depth(g, last); e != api.OK || depth != api.MaxGates {
		t.Error(depth, e)
	}
	to := withInputs(t, plain, 2)
	if l, e := cone.Copy(to, g, row{2, 4}, last); e != api.OK || !slices.Equal(l, row{last}) || to.Gates() != api.MaxGates {
		t.Error(l, e, to.Gates())
	}
}

// P4.1, P4.2, P4.3: what is answered is new memory.
func TestNewMemory(t *testing.T) {
	g := example(t, both)
	was := g.Copy()
	reach, _ := cone.Reach(g, 10)
	support, _ := cone.Support(g, 10)
	clear(reach)
	clear(support)
	_ = append(support[:0], 9, 9, 9)
	if again, e := cone.Reach(g, 10); e != api.OK || !slices.Equal(again, []int{1, 2, 3, 4, 5}) {
		t.Error(again, e)
	}
	if again, e := cone.Support(g, 10); e != api.OK || !slices.Equal(again, []int{1, 2, 3}) {
		t.Error(again, e)
	}
	in, l, by := []uint64{1, 2, 3}, row{2, 4, 6}, row{2, 4, 6}
	words, _ := cone.Words(g, in, l...)
	made, _ := cone.Copy(g, g, by, l...)
	clear(words)
	clear(made)
	if !slices.Equal(in, []uint64{1, 2, 3}) || !slices.Equal(l, row{2, 4, 6}) || !slices.Equal(by, l) || !aig.Same(g, was) {
		t.Error(in, l, by)
	}
	same := row{2, 4, 6}
	made, _ = cone.Copy(g, g, same, same...)
	clear(made)
	if !slices.Equal(same, row{2, 4, 6}) || !aig.Same(g, was) {
		t.Error(same)
	}
}

// P4.2: the words of constants, of inputs, of the same literal twice, and of one with its opposite.
func TestWords(t *testing.T) {
	for _, o := range theOptions() {
		g := edges(t, o)
		in := []uint64{0xf0, 0x3c, 0x66}
		x, y, z := in[0], in[1], in[2]
		nine := ^(x & y) & x
		twelve := ^(nine &^ z) & x
		l := row{0, 1, 2, 3, 2, 14, 20, 21, 4, 6, 8, 10, 12, 16, 17, 18, 22, 24, 25}
		want := []uint64{0, math.MaxUint64, x, ^x, x, y, z, ^z, 0, math.MaxUint64, 0, x, 0, x & y, ^(x & y), nine, nine &^ z, twelve, ^twelve}
		if words, e := cone.Words(g, in, l...); e != api.OK || !slices.Equal(words, want) {
			t.Errorf("%v: %x, error %d, not %x", o, words, e, want)
		}
		for _, none := range []row{nil, {}} {
			if words, e := cone.Words(g, in, none...); e != api.OK || len(words) != 0 {
				t.Error(o, words, e)
			}
		}
		if words, e := cone.Words(aig.New(o), nil, 1, 0); e != api.OK || !slices.Equal(words, []uint64{math.MaxUint64, 0}) {
			t.Error(o, words, e)
		}
	}
}

// P4.2: too few words, or too many, also where no literal is asked for.
func TestWordsOfOtherInputs(t *testing.T) {
	for _, o := range theOptions() {
		g := example(t, o)
		for n := range 7 {
			for _, l := range []row{nil, {}, {0}, {2}, {2, 10}} {
				words, e := cone.Words(g, make([]uint64, n), l...)
				if n == 3 && (e != api.OK || len(words) != len(l)) || n != 3 && (e != api.ErrArg || len(words) != 0) {
					t.Error(o, n, l, words, e)
				}
			}
		}
	}
}

// far are literals that are not there in a graph of so many nodes.
func far(nodes int) row {
	return row{lit.Lit(2 * nodes), lit.Lit(2*nodes + 1), lit.Lit(2*nodes + 2), 1000, 2*lit.MaxNode + 1, 2*lit.MaxNode + 2, 1 << 31, math.MaxUint32 - 1, math.MaxUint32}
}

// P4.1, P4.2: literals that are not there, alone and among others.
func TestNotThere(t *testing.T) {
	for _, o := range theOptions() {
		g := example(t, o)
		was := g.Copy()
		for _, x := range far(6) {
			for _, l := range []row{{x}, {2, x}, {x, 2}, {0, 1, x, 10}, {x, x}, {10, 8, 6, 4, 2, x}} {
				if nodes, e := cone.Reach(g, l...); e != api.ErrArg || len(nodes) != 0 {
					t.Error(o, l, nodes, e)
				}
				if nodes, e := cone.Support(g, l...); e != api.ErrArg || len(nodes) != 0 {
					t.Error(o, l, nodes, e)
				}
				if depth, e := cone.Depth(g, l...); e != api.ErrArg || depth != 0 {
					t.Error(o, l, depth, e)
				}
				for _, in := range [][]uint64{{1, 2, 3}, nil, {1, 2, 3, 4}} {
					if words, e := cone.Words(g, in, l...); e != api.ErrArg || len(words) != 0 {
						t.Error(o, l, words, e)
					}
				}
				to := withInputs(t, o, 3)
				if made, e := cone.Copy(to, g, row{2, 4, 6}, l...); e != api.ErrArg || len(made) != 0 || to.Nodes() != 4 {
					t.Error(o, l, made, e, to.Nodes())
				}
			}
		}
		if !aig.Same(g, was) {
			t.Error(o, "the graph has changed")
		}
	}
}

// mustCopy fails, if Copy makes or tells anything but what the document does, or changes anything else; it tells what Copy tells.
func mustCopy(t *testing.T, to, from *aig.Graph, by, l row) row {
	t.Helper()
	wantFrom, givenBy, given := from.Copy(), slices.Clone(by), slices.Clone(l)
	wantTo := to.Copy()
	if to == from {
		wantFrom = wantTo
	}
	want, wantError := copyOf(wantTo, wantFrom, by, l)
	made, e := cone.Copy(to, from, by, l...)
	if e != wantError || !slices.Equal(made, want) {
		t.Fatalf("%v to %v: Copy of %v by %v: %v, error %d, not %v, error %d", from.Options(), to.Options(), l, by, made, e, want, wantError)
	}
	if !aig.Same(to, wantTo) || !aig.Same(from, wantFrom) || !slices.Equal(by, givenBy) || !slices.Equal(l, given) {
		t.Fatalf("%v to %v: Copy of %v by %v has made other gates, or changed something", from.Options(), to.Options(), given, givenBy)
	}
	return made
}

// P4.3: of any literals of any graph to any other one, under all options of both, once and once more.
func TestCopy(t *testing.T) {
	for _, o := range theOptions() {
		for _, p := range theOptions() {
			for seed := range uint64(40) {
				d := dice(seed)
				from, to := grown(t, o, &d, 1+d.roll(15)), grown(t, p, &d, d.roll(10))
				by := d.lits(len(from.Inputs()), to.Nodes())
				for range 3 {
					mustCopy(t, to, from, by, d.lits(d.roll(5), from.Nodes()))
				}
			}
		}
	}
}

// P4.3: a graph copied into itself, by any row, once and once more.
func TestCopyIntoItself(t *testing.T) {
	for _, o := range theOptions() {
		for seed := range uint64(80) {
			d := dice(seed)
			g := grown(t, o, &d, 1+d.roll(15))
			for range 3 {
				l := d.lits(1+d.roll(4), g.Nodes())
				mustCopy(t, g, g, d.lits(len(g.Inputs()), g.Nodes()), l)
			}
		}
	}
}

// P4.3: a graph copied into itself by its own inputs: one that hashes has all gates; another one makes them again.
func TestCopyIntoItselfByItself(t *testing.T) {
	for _, o := range theOptions() {
		g := example(t, o)
		made, e := cone.Copy(g, g, row{2, 4, 6}, 11, 8, 1, 3)
		want, gates := row{15, 12, 1, 3}, 4
		if o.Hash {
			want, gates = row{11, 8, 1, 3}, 2
		}
		if e != api.OK || !slices.Equal(made, want) || g.Gates() != gates {
			t.Error(o, made, e, g.Gates())
		}
	}
}

// gatesFrom fails, if the nodes from the first on are not these gates, and all that there are.
func gatesFrom(t *testing.T, g *aig.Graph, first int, gates ...[2]lit.Lit) {
	t.Helper()
	if g.Nodes() != first+len(gates) {
		t.Errorf("%v: %d nodes, not %d", g.Options(), g.Nodes(), first+len(gates))
	}
	for i, x := range gates {
		if a, b, is := g.Gate(first + i); a != x[0] || b != x[1] || !is {
			t.Errorf("%v: Gate(%d): %d, %d, %v, not %v", g.Options(), first+i, a, b, is, x)
		}
	}
}

// P4.3: gates come from the least node on, whatever the order of the literals, each once, and none that nothing leans on.
func TestOrderOfGates(t *testing.T) {
	for _, o := range theOptions() {
		// Literals 8, 10, 12, 14 are gates.
		g := withGates(t, o, 3, [][2]lit.Lit{{2, 4}, {4, 6}, {11, 8}, {6, 2}}...)
		for _, p := range theOptions() {
			for _, l := range []row{{14, 12}, {12, 14}, {14, 12, 15, 12, 8, 10}} {
				to := withInputs(t, p, 4)
				made, e := cone.Copy(to, g, row{4, 9, 2}, l...)
				want := make(row, len(l))
				for i, one := range l {
					want[i] = one + 2
				}
				if e != api.OK || !slices.Equal(made, want) {
					t.Error(o, p, l, made, e)
				}
				gatesFrom(t, to, 5, [2]lit.Lit{9, 4}, [2]lit.Lit{9, 2}, [2]lit.Lit{13, 10}, [2]lit.Lit{4, 2})
			}
			to := withInputs(t, p, 4)
			if made, e := cone.Copy(to, g, row{4, 9, 2}, 15); e != api.OK || !slices.Equal(made, row{11}) {
				t.Error(o, p, made, e)
			}
			gatesFrom(t, to, 5, [2]lit.Lit{4, 2})
		}
	}
}

// P4.3: nothing is made for constants, inputs and no literals at all; turned ones are turned, in the row and among those that are copied.
func TestCopyWithoutGates(t *testing.T) {
	for _, o := range theOptions() {
		for _, p := range theOptions() {
			g := example(t, o)
			to := withGates(t, p, 2, [2]lit.Lit{2, 5})
			was := to.Copy()
			for _, x := range []struct{ by, l, want row }{
				{row{2, 4, 6}, nil, nil},
				{row{2, 4, 6}, row{}, nil},
				{row{2, 4, 6}, row{0, 1, 1}, row{0, 1, 1}},
				{row{7, 1, 0}, row{2, 3, 4, 5, 6, 7, 2, 0}, row{7, 6, 1, 0, 0, 1, 7, 0}},
				{row{3, 3, 3}, row{6, 7, 4}, row{3, 2, 3}},
			} {
				if made, e := cone.Copy(to, g, x.by, x.l...); e != api.OK || !slices.Equal(made, x.want) {
					t.Error(o, p, x.by, x.l, made, e)
				}
			}
			if !aig.Same(to, was) {
				t.Error(o, p, "gates were made")
			}
		}
	}
}

// P4.3: where the second graph folds or hashes, fewer gates come; gates of one node and of constants, too.
func TestFewerGates(t *testing.T) {
	// Literals 6, 8 are one gate twice; 10, 12 of one node; 14 of a constant; 16 of all.
	gates := [][2]lit.Lit{{2, 4}, {4, 2}, {2, 2}, {4, 5}, {1, 2}, {6, 8}}
	for _, o := range theOptions() {
		g := withGates(t, o, 2, gates...)
		l := row{6, 8, 10, 12, 14, 16, 17}
		for _, x := range []struct {
			p    aig.Options
			want row
			made int
		}{
			{aig.Options{}, row{6, 8, 10, 12, 14, 16, 17}, 6},
			{aig.Options{Fold: true}, row{6, 8, 2, 0, 2, 10, 11}, 3},
			{aig.Options{Hash: true}, row{6, 6, 8, 10, 12, 14, 15}, 5},
			{both, row{6, 6, 2, 0, 2, 6, 7}, 1},
		} {
			to := withInputs(t, x.p, 2)
			if made, e := cone.Copy(to, g, row{2, 4}, l...); e != api.OK || !slices.Equal(made, x.want) || to.Gates() != x.made {
				t.Error(o, x.p, made, e, to.Gates())
			}
		}
		// By a constant all folds away.
		to := withInputs(t, both, 2)
		if made, e := cone.Copy(to, g, row{0, 5}, l...); e != api.OK || !slices.Equal(made, row{0, 0, 0, 0, 0, 0, 1}) || to.Gates() != 0 {
			t.Error(o, made, e, to.Gates())
		}
	}
}

// P4.3: gates that are there already are found by a graph that hashes.
func TestFindsGates(t *testing.T) {
	for _, o := range theOptions() {
		g := example(t, o)
		for _, p := range theOptions() {
			to := withGates(t, p, 3, [][2]lit.Lit{{7, 7}, {2, 4}, {6, 4}}...)
			made, e := cone.Copy(to, g, row{4, 2, 6}, 10, 8)
			want, nodes := row{16, 14}, 9
			if p.Hash {
				want, nodes = row{14, 10}, 8
			}
			if e != api.OK || !slices.Equal(made, want) || to.Nodes() != nodes {
				t.Error(o, p, made, e, to.Nodes())
			}
		}
	}
}

// P4.3: a row that has too few or too many literals, also where none is needed; a literal of the row that is not in the second graph, also where nothing leans on its input.
func TestWrongRow(t *testing.T) {
	for _, o := range theOptions() {
		for _, p := range theOptions() {
			g := example(t, o)
			to := withInputs(t, p, 5)
			was := to.Copy()
			for _, l := range []row{nil, {0}, {2}, {10, 8}} {
				for n := range 8 {
					by := make(row, n)
					made, e := cone.Copy(to, g, by, l...)
					if n != 3 && (e != api.ErrArg || len(made) != 0 || !aig.Same(to, was)) {
						t.Error(o, p, by, l, made, e)
					}
					if n == 3 && (e != api.OK || len(made) != len(l)) {
						t.Error(o, p, by, l, made, e)
					}
					to = was.Copy()
				}
				for _, x := range far(6) {
					for _, by := range []row{{x, 4, 6}, {2, x, 6}, {2, 4, x}, {x, x, x}, {0, 1, x}} {
						if made, e := cone.Copy(to, g, by, l...); e != api.ErrArg || len(made) != 0 || !aig.Same(to, was) {
							t.Error(o, p, by, l, made, e)
						}
					}
				}
			}
		}
	}
}

// P4.3: what is in one graph need not be in the other: l is of the first one, the row of the second one.
func TestWhoseLiterals(t *testing.T) {
	for _, o := range theOptions() {
		big, small := withInputs(t, o, 9), withInputs(t, o, 1)
		if made, e := cone.Copy(big, small, row{19}, 3); e != api.OK || !slices.Equal(made, row{18}) {
			t.Error(o, made, e)
		}
		if made, e := cone.Copy(big, small, row{18}, 18); e != api.ErrArg || len(made) != 0 {
			t.Error(o, made, e)
		}
		if made, e := cone.Copy(small, big, make(row, 9), 18, 19); e != api.OK || !slices.Equal(made, row{0, 1}) {
			t.Error(o, made, e)
		}
		if made, e := cone.Copy(small, big, row{0, 0, 0, 0, 0, 0, 0, 0, 18}, 2); e != api.ErrArg || len(made) != 0 {
			t.Error(o, made, e)
		}
	}
}

// P4.3: graphs without inputs are copied by no row.
func TestNoInputs(t *testing.T) {
	for _, o := range theOptions() {
		for _, p := range theOptions() {
			g := withGates(t, o, 0, [][2]lit.Lit{{1, 1}, {3, 1}, {5, 2}}...)
			for _, none := range []row{nil, {}} {
				mustCopy(t, aig.New(p), g, none, row{7, 0, 4, 3})
			}
			if made, e := cone.Copy(aig.New(p), g, row{0}, 7); e != api.ErrArg || len(made) != 0 {
				t.Error(o, p, made, e)
			}
		}
	}
}

// filled is a graph of inputs, and of gates of 2 and 5, such that just left more may be made.
func filled(t *testing.T, o aig.Options, inputs, left int) *aig.Graph {
	t.Helper()
	g := withInputs(t, o, inputs)
	for range api.MaxGates - left {
		must(t)(g.Raw(2, 5))
	}
	return g
}

// P4.3: a full second graph: ErrFull, and what was made ahead of it stays; what needs no gate is copied all the same.
func TestFull(t *testing.T) {
	for _, o := range theOptions() {
		g := withGates(t, o, 3, [][2]lit.Lit{{4, 2}, {9, 6}, {11, 8}}...)
		for _, p := range theOptions() {
			for left := range 4 {
				to := filled(t, p, 3, left)
				first := to.Nodes()
				made, e := cone.Copy(to, g, row{2, 4, 6}, 2, 12, 3)
				// A graph that has fewer than three gates left has no place for the third one.
				if left == 3 && (e != api.OK || !slices.Equal(made, row{2, lit.Lit(2*first + 4), 3})) {
					t.Error(o, p, left, made, e)
				}
				if left < 3 && (e != api.ErrFull || len(made) != 0) {
					t.Error(o, p, left, made, e)
				}
				at := lit.Lit(2 * first)
				gatesFrom(t, to, first, [][2]lit.Lit{{4, 2}, {at + 1, 6}, {at + 3, at}}[:left]...)
				fullStill(t, to, g)
			}
		}
	}
}

// fullStill asks a full graph for copies that need no gate, or one, and for wrong ones.
func fullStill(t *testing.T, to, g *aig.Graph) {
	t.Helper()
	was, o := to.Copy(), to.Options()
	if made, e := cone.Copy(to, g, row{2, 4, 7}, 2, 7, 0, 1); e != api.OK || !slices.Equal(made, row{2, 6, 0, 1}) {
		t.Error(o, made, e)
	}
	if made, e := cone.Copy(to, g, row{0, 4, 6}, 8); o.Fold && (e != api.OK || !slices.Equal(made, row{0})) || !o.Fold && (e != api.ErrFull || len(made) != 0) {
		t.Error(o, made, e)
	}
	if made, e := cone.Copy(to, g, row{5, 2, 6}, 8); o.Hash && (e != api.OK || !slices.Equal(made, row{8})) || !o.Hash && (e != api.ErrFull || len(made) != 0) {
		t.Error(o, made, e)
	}
	if made, e := cone.Copy(to, g, row{2, 4, 6}, 12, 14); e != api.ErrArg || len(made) != 0 {
		t.Error(o, made, e)
	}
	if made, e := cone.Copy(to, g, row{2, 4}, 12); e != api.ErrArg || len(made) != 0 {
		t.Error(o, made, e)
	}
	if made, e := cone.Copy(to, g, row{2, 4, math.MaxUint32}, 12); e != api.ErrArg || len(made) != 0 {
		t.Error(o, made, e)
	}
	if !aig.Same(to, was) {
		t.Error(o, "a full graph has changed")
	}
}

// P4.3: a full graph, copied into itself.
func TestFullIntoItself(t *testing.T) {
	for _, o := range theOptions() {
		g := filled(t, o, 3, 0)
		was := g.Copy()
		made, e := cone.Copy(g, g, row{2, 4, 6}, 8)
		if o.Hash && (e != api.OK || !slices.Equal(made, row{8})) || !o.Hash && (e != api.ErrFull || len(made) != 0) {
			t.Error(o, made, e)
		}
		if made, e := cone.Copy(g, g, row{6, 4, 2}, 8); e != api.ErrFull || len(made) != 0 {
			t.Error(o, made, e)
		}
		if !aig.Same(g, was) {
			t.Error(o, "a full graph has changed")
		}
	}
}

// P4.4: a copy has the words that the literal has under the words of the row; as many gates come at most as the literals lean on; what was there ahead stays.
func TestSameWords(t *testing.T) {
	for _, o := range theOptions() {
		for _, p := range theOptions() {
			for seed := range uint64(40) {
				d := dice(seed + 1000)
				from, to := grown(t, o, &d, 1+d.roll(15)), grown(t, p, &d, d.roll(10))
				by := d.lits(len(from.Inputs()), to.Nodes())
				l := d.lits(1+d.roll(4), from.Nodes())
				sameWords(t, &d, to, from, by, l)
			}
		}
	}
}

// sameWords copies l by by, and holds the copies' words against those of l.
func sameWords(t *testing.T, d *dice, to, from *aig.Graph, by, l row) {
	t.Helper()
	was := to.Copy()
	made, e := cone.Copy(to, from, by, l...)
	if e != api.OK {
		t.Fatal(e)
	}
	for range 4 {
		in := d.words(len(to.Inputs()))
		byWords, e := cone.Words(to, in, by...)
		if e != api.OK {
			t.Fatal(e)
		}
		want, e := cone.Words(from, byWords, l...)
		got, f := cone.Words(to, in, made...)
		if e != api.OK || f != api.OK || !slices.Equal(got, want) {
			t.Fatalf("%v to %v: of %v by %v: %x, not %x", from.Options(), to.Options(), l, by, got, want)
		}
	}
	gates := 0
	for _, node := range reachOf(from, l...) {
		if _, _, is := from.Gate(node); is {
			gates++
		}
	}
	if to.Gates()-was.Gates() > gates || to.Gates()-was.Gates() != to.Nodes()-was.Nodes() || to.Options() != was.Options() {
		t.Fatalf("%v to %v: of %v by %v: %d gates more", from.Options(), to.Options(), l, by, to.Gates()-was.Gates())
	}
	for node := range was.Nodes() {
		a, b, is := was.Gate(node)
		if c, d, still := to.Gate(node); a != c || b != d || is != still {
			t.Fatalf("%v to %v: gate %d has changed", from.Options(), to.Options(), node)
		}
	}
}

// P4.5: other inputs' words do not matter; each input that matters is of the support.
func TestSupportAlone(t *testing.T) {
	for _, o := range theOptions() {
		for seed := range uint64(60) {
			d := dice(seed + 2000)
			g := grown(t, o, &d, 1+d.roll(15))
			l := d.lits(1+d.roll(4), g.Nodes())
			support, e := cone.Support(g, l...)
			if e != api.OK {
				t.Fatal(e)
			}
			in := d.words(len(g.Inputs()))
			want, _ := cone.Words(g, in, l...)
			for i, node := range g.Inputs() {
				if !slices.Contains(support, node) {
					in[i] = d.word()
				}
			}
			if words, e := cone.Words(g, in, l...); e != api.OK || !slices.Equal(words, want) {
				t.Fatalf("%v: Words of %v: %x, not %x", o, l, words, want)
			}
		}
	}
}

// P4.6: depth goes up by one at most with each gate, and no literal that leans on another one has a lesser one.
func TestDepths(t *testing.T) {
	for _, o := range theOptions() {
		for seed := range uint64(40) {
			d := dice(seed + 3000)
			g := grown(t, o, &d, 1+d.roll(15))
			depth := func(l ...lit.Lit) int {
				n, e := cone.Depth(g, l...)
				if e != api.OK {
					t.Fatal(e)
				}
				return n
			}
			for node := range g.Nodes() {
				l := lit.Lit(2 * node)
				if a, b, is := g.Gate(node); is && depth(l) != depth(a, b)+1 || !is && depth(l) != 0 || depth(l) != depth(l+1) {
					t.Fatalf("%v: Depth(%d): %d", o, l, depth(l))
				}
				leant, _ := cone.Reach(g, l)
				for _, other := range leant {
					if depth(lit.Lit(2*other)) > depth(l) {
						t.Fatalf("%v: %d leans on node %d, which is deeper", o, l, other)
					}
				}
			}
		}
	}
}

// P4.6: copied into an empty graph without options, by its own inputs, each literal has the same depth.
func TestSameDepth(t *testing.T) {
	for _, o := range theOptions() {
		for seed := range uint64(40) {
			d := dice(seed + 4000)
			g := grown(t, o, &d, 1+d.roll(15))
			to := aig.New(plain)
			var by row
			for range g.Inputs() {
				by = append(by, must(t)(to.Input()))
			}
			l := d.lits(1+d.roll(4), g.Nodes())
			made := mustCopy(t, to, g, by, l)
			for i, one := range l {
				a, _ := cone.Depth(g, one)
				if b, e := cone.Depth(to, made[i]); e != api.OK || a != b {
					t.Fatalf("%v: Depth of %d is %d, of its copy %d %d, error %d", o, one, a, made[i], b, e)
				}
			}
		}
	}
}

// nones are graphs that New did not make, and none.
func nones() []*aig.Graph { return []*aig.Graph{nil, {}, new(aig.Graph)} }

// P4.1, P4.2: a graph that New did not make, and none; ErrNil comes ahead of ErrArg.
func TestNone(t *testing.T) {
	for i, g := range nones() {
		for _, l := range []row{nil, {}, {0}, {1}, {2}, {0, 1000}, {math.MaxUint32}} {
			if nodes, e := cone.Reach(g, l...); e != api.ErrNil || len(nodes) != 0 {
				t.Error(i, l, nodes, e)
			}
			if nodes, e := cone.Support(g, l...); e != api.ErrNil || len(nodes) != 0 {
				t.Error(i, l, nodes, e)
			}
			if depth, e := cone.Depth(g, l...); e != api.ErrNil || depth != 0 {
				t.Error(i, l, depth, e)
			}
			for _, in := range [][]uint64{nil, {}, {1}} {
				if words, e := cone.Words(g, in, l...); e != api.ErrNil || len(words) != 0 {
					t.Error(i, l, words, e)
				}
			}
		}
	}
}

// P4.3: none on either side of Copy, and on both; ErrNil comes ahead of ErrArg and of ErrFull.
func TestCopyOfNone(t *testing.T) {
	full := filled(t, plain, 2, 0)
	for i, none := range nones() {
		for _, by := range []row{nil, {}, {2}, {2, 4}, {2, 4, 6}, {math.MaxUint32}} {
			for _, l := range []row{nil, {}, {0}, {2}, {6}, {8, 1000}, {math.MaxUint32}} {
				refused := func(to, from *aig.Graph) {
					t.Helper()
					if made, e := cone.Copy(to, from, by, l...); e != api.ErrNil || len(made) != 0 {
						t.Errorf("%d: by %v of %v: %v, error %d", i, by, l, made, e)
					}
				}
				for _, o := range theOptions() {
					g := withGates(t, o, 2, [2]lit.Lit{2, 4})
					was := g.Copy()
					refused(none, g)
					refused(g, none)
					if !aig.Same(g, was) {
						t.Error(i, o, "the graph has changed")
					}
				}
				refused(none, none)
				refused(none, nil)
				refused(full, none)
			}
		}
	}
}
