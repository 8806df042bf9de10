package aig_test

import (
	"math"
	"slices"
	"testing"

	"orrery/aig"
	"orrery/api"
	"orrery/lit"
)

// theOptions are all four settings.
func theOptions() []aig.Options {
	return []aig.Options{{}, {Fold: true}, {Hash: true}, {Fold: true, Hash: true}}
}

// both are the settings of P3.6.
var both = aig.Options{Fold: true, Hash: true}

// all are the words of True.
const all = math.MaxUint64

// kind is what a told node is.
type kind int

const (
	constant kind = iota
	input
	gate
)

// toldNode is a node, as the document tells it.
type toldNode struct {
	kind kind
	a, b lit.Lit
}

// told is a graph, as the document tells it: gates that are there are looked for one by one, and it is never full.
type told struct {
	o     aig.Options
	nodes []toldNode
}

// tell is a told graph of node 0 alone.
func tell(o aig.Options) *told { return &told{o, []toldNode{{}}} }

// add is the literal of the new node n.
func (g *told) add(n toldNode) lit.Lit {
	g.nodes = append(g.nodes, n)
	return lit.Lit(2 * (len(g.nodes) - 1))
}

// input is a new input.
func (g *told) input() lit.Lit { return g.add(toldNode{kind: input}) }

// raw is a new gate.
func (g *told) raw(a, b lit.Lit) lit.Lit { return g.add(toldNode{gate, max(a, b), min(a, b)}) }

// and2 is of two literals the And.
func (g *told) and2(a, b lit.Lit) lit.Lit {
	if g.o.Fold {
		switch {
		case a == 0, b == 0, a^1 == b:
			return 0
		case a == 1:
			return b
		case b == 1, a == b:
			return a
		}
	}
	for i, n := range g.nodes {
		if g.o.Hash && n == (toldNode{gate, max(a, b), min(a, b)}) {
			return lit.Lit(2 * i)
		}
	}
	return g.raw(a, b)
}

// or2 is of two literals the Or.
func (g *told) or2(a, b lit.Lit) lit.Lit { return g.and2(a^1, b^1) ^ 1 }

// xor2 is of two literals the Xor.
func (g *told) xor2(a, b lit.Lit) lit.Lit {
	first := g.and2(a, b^1)
	second := g.and2(a^1, b)
	return g.and2(first^1, second^1) ^ 1
}

// mux is a, if c, else b.
func (g *told) mux(c, a, b lit.Lit) lit.Lit {
	first := g.and2(c, a)
	second := g.and2(c^1, b)
	return g.and2(first^1, second^1) ^ 1
}

// many is what two makes of l, from the left; none of none.
func many(none lit.Lit, two func(a, b lit.Lit) lit.Lit, l []lit.Lit) lit.Lit {
	switch n := len(l); n {
	case 0:
		return none
	case 1:
		return l[0]
	default:
		return two(many(none, two, l[:n-1]), l[n-1])
	}
}

// and, or and xor are those of many literals.
func (g *told) and(l ...lit.Lit) lit.Lit { return many(1, g.and2, l) }
func (g *told) or(l ...lit.Lit) lit.Lit  { return many(0, g.or2, l) }
func (g *told) xor(l ...lit.Lit) lit.Lit { return many(0, g.xor2, l) }

// mustBe fails, if g is not as the told graph.
func mustBe(t *testing.T, g *aig.Graph, as *told) {
	t.Helper()
	var inputs []int
	gates := 0
	for i, n := range as.nodes {
		switch n.kind {
		case input:
			inputs = append(inputs, i)
		case gate:
			gates++
		}
		if a, b, is := g.Gate(i); a != n.a || b != n.b || is != (n.kind == gate) {
			t.Fatalf("%v: Gate(%d): %d, %d, %v, not %v", as.o, i, a, b, is, n)
		}
	}
	if g.Nodes() != len(as.nodes) || g.Gates() != gates || !slices.Equal(g.Inputs(), inputs) || g.Options() != as.o {
		t.Fatalf("%v: Nodes %d, not %d; Gates %d, not %d; Inputs %v, not %v; Options %v", as.o, g.Nodes(), len(as.nodes), g.Gates(), gates, g.Inputs(), inputs, g.Options())
	}
}

// dice tells the same numbers in each run.
type dice uint64

// roll is a number below n.
func (d *dice) roll(n int) int {
	*d = *d*6364136223846793005 + 1442695040888963407
	return int(uint64(*d) >> 33 % uint64(n))
}

// lits are n literals of nodes below nodes.
func (d *dice) lits(n, nodes int) []lit.Lit {
	l := make([]lit.Lit, n)
	for i := range l {
		l[i] = lit.Lit(d.roll(2 * nodes))
	}
	return l
}

// must is l, where no error may be.
func must(t *testing.T) func(l lit.Lit, e api.Errno) lit.Lit {
	return func(l lit.Lit, e api.Errno) lit.Lit {
		t.Helper()
		if e != api.OK {
			t.Fatalf("error %d", e)
		}
		return l
	}
}

// withInputs is a graph of n inputs, and the told one.
func withInputs(t *testing.T, o aig.Options, n int) (*aig.Graph, *told) {
	t.Helper()
	g, as := aig.New(o), tell(o)
	for range n {
		if l, want := must(t)(g.Input()), as.input(); l != want {
			t.Fatalf("%v: Input: %d, not %d", o, l, want)
		}
	}
	return g, as
}

// step does the same to g and to the told one, and holds the answers against each other.
func step(t *testing.T, d *dice, g *aig.Graph, as *told, raw bool) {
	t.Helper()
	what, n := d.roll(7), g.Nodes()
	l := d.lits(d.roll(5), n)
	three := d.lits(3, n)
	given := slices.Clone(l)
	var got, want lit.Lit
	switch {
	case what == 0:
		got, want = must(t)(g.Input()), as.input()
	case what == 1 && raw:
		got, want = must(t)(g.Raw(three[0], three[1])), as.raw(three[0], three[1])
	case what == 2:
		got, want = must(t)(g.And(l...)), as.and(l...)
	case what == 3:
		got, want = must(t)(g.Or(l...)), as.or(l...)
	case what == 4:
		got, want = must(t)(g.Xor(l...)), as.xor(l...)
	case what == 5:
		got, want = must(t)(g.Mux(three[0], three[1], three[2])), as.mux(three[0], three[1], three[2])
	default:
		got, want = must(t)(g.And(three[0], three[1])), as.and(three[0], three[1])
	}
	if got != want {
		t.Fatalf("%v: %d of %v %v: %d, not %d", as.o, what, l, three, got, want)
	}
	if !slices.Equal(l, given) {
		t.Fatalf("%v: %v was made %v", as.o, given, l)
	}
}

// grown is a graph of many steps, and the told one.
func grown(t *testing.T, o aig.Options, seed uint64, steps int, raw bool) (*aig.Graph, *told) {
	t.Helper()
	d := dice(seed)
	g, as := withInputs(t, o, d.roll(4))
	for range steps {
		step(t, &d, g, as, raw)
	}
	return g, as
}

// P3.1 to P3.3: whatever is done, the answers and the nodes are as the document tells them.
func TestAsTold(t *testing.T) {
	for _, o := range theOptions() {
		for seed := range uint64(60) {
			g, as := grown(t, o, seed, 60, true)
			mustBe(t, g, as)
		}
	}
}

// P3.1: New.
func TestNew(t *testing.T) {
	for _, o := range theOptions() {
		g := aig.New(o)
		mustBe(t, g, tell(o))
		if g.Nodes() != 1 || g.Gates() != 0 || len(g.Inputs()) != 0 || g.Options() != o {
			t.Error(o, g.Nodes(), g.Gates(), g.Inputs(), g.Options())
		}
		if g == aig.New(o) {
			t.Error(o, "New tells one graph twice")
		}
	}
}

// P3.1: Input, also behind gates.
func TestInput(t *testing.T) {
	for _, o := range theOptions() {
		g := aig.New(o)
		for i, want := range []lit.Lit{2, 4, 8} {
			if l, e := g.Input(); e != api.OK || l != want {
				t.Error(o, i, l, e)
			}
			if i == 1 {
				must(t)(g.Raw(2, 4))
			}
		}
		if !slices.Equal(g.Inputs(), []int{1, 2, 4}) || g.Nodes() != 5 || g.Gates() != 1 {
			t.Error(o, g.Inputs(), g.Nodes(), g.Gates())
		}
	}
}

// P3.1: Raw makes a gate, whatever the options say; the greater literal is told first.
func TestRaw(t *testing.T) {
	for _, o := range theOptions() {
		g, as := withInputs(t, o, 2)
		for _, x := range [][2]lit.Lit{{2, 4}, {4, 2}, {2, 4}, {0, 0}, {0, 1}, {1, 1}, {1, 1}, {2, 2}, {2, 3}, {0, 5}, {5, 1}, {6, 3}, {7, 21}} {
			want := lit.Lit(2 * g.Nodes())
			if l, e := g.Raw(x[0], x[1]); e != api.OK || l != want || as.raw(x[0], x[1]) != want {
				t.Errorf("%v: Raw(%d, %d): %d, error %d", o, x[0], x[1], l, e)
			}
			if a, b, is := g.Gate(want.Node()); a != max(x[0], x[1]) || b != min(x[0], x[1]) || !is {
				t.Errorf("%v: Gate of Raw(%d, %d): %d, %d, %v", o, x[0], x[1], a, b, is)
			}
		}
		mustBe(t, g, as)
	}
}

// P3.1, P3.2: gates of the same two literals that Raw made ahead of And: the first one stands for them, just where the graph hashes.
func TestRawAheadOfAnd(t *testing.T) {
	for _, o := range theOptions() {
		g, _ := withInputs(t, o, 2)
		first := must(t)(g.Raw(2, 5))
		second := must(t)(g.Raw(5, 2))
		if first != 6 || second != 8 {
			t.Error(o, first, second)
		}
		want := lit.Lit(10)
		if o.Hash {
			want = 6
		}
		if l := must(t)(g.And(2, 5)); l != want {
			t.Errorf("%v: And(2, 5): %d, not %d", o, l, want)
		}
		if l := must(t)(g.And(5, 2)); o.Hash && l != 6 || !o.Hash && l != 12 {
			t.Errorf("%v: And(5, 2): %d", o, l)
		}
		third := must(t)(g.Raw(2, 5))
		if l := must(t)(g.And(2, 5)); o.Hash && l != 6 || !o.Hash && l != third+2 {
			t.Errorf("%v: And(2, 5), once more: %d", o, l)
		}
	}
}

// P3.2: a gate that Raw made of what And would fold: folding comes ahead of hashing.
func TestFoldAheadOfHash(t *testing.T) {
	for _, o := range theOptions() {
		g, _ := withInputs(t, o, 1)
		raw := must(t)(g.Raw(2, 2))
		l := must(t)(g.And(2, 2))
		want := raw + 2
		if o.Hash {
			want = raw
		}
		if o.Fold {
			want = 2
		}
		if l != want {
			t.Errorf("%v: And(2, 2): %d, not %d", o, l, want)
		}
	}
}

// P3.1: what a graph without folding does with constants, and what one that hashes finds.
func TestGatesOfConstants(t *testing.T) {
	for _, o := range theOptions() {
		g, as := withInputs(t, o, 1)
		for range 2 {
			for _, x := range [][]lit.Lit{{0, 2}, {2, 0}, {1, 2}, {2, 1}, {2, 2}, {2, 3}, {3, 2}, {0, 0}, {0, 1}, {1, 1}} {
				if l, want := must(t)(g.And(x...)), as.and(x...); l != want {
					t.Errorf("%v: And(%v): %d, not %d", o, x, l, want)
				}
			}
		}
		mustBe(t, g, as)
		gates := 20
		if o.Hash {
			gates = 7
		}
		if o.Fold {
			gates = 0
		}
		if g.Gates() != gates {
			t.Errorf("%v: %d gates, not %d", o, g.Gates(), gates)
		}
	}
}

// P3.2: And, Or, Xor of none and of one make nothing.
func TestOfNoneAndOne(t *testing.T) {
	for _, o := range theOptions() {
		g, as := withInputs(t, o, 2)
		for _, x := range []struct {
			f    func(...lit.Lit) (lit.Lit, api.Errno)
			none lit.Lit
		}{{g.And, lit.True}, {g.Or, lit.False}, {g.Xor, lit.False}} {
			if l, e := x.f(); e != api.OK || l != x.none {
				t.Error(o, l, e)
			}
			if l, e := x.f([]lit.Lit{}...); e != api.OK || l != x.none {
				t.Error(o, l, e)
			}
			for one := range lit.Lit(6) {
				if l, e := x.f(one); e != api.OK || l != one {
					t.Error(o, one, l, e)
				}
			}
		}
		mustBe(t, g, as)
	}
}

// P3.2: many go from the left.
func TestFromTheLeft(t *testing.T) {
	for _, o := range theOptions() {
		g, _ := withInputs(t, o, 4)
		if l := must(t)(g.And(2, 4, 7, 8)); l != 14 {
			t.Error(o, l)
		}
		wantGates(t, g, 5, [][2]lit.Lit{{4, 2}, {10, 7}, {12, 8}})
		g, _ = withInputs(t, o, 4)
		if l := must(t)(g.Or(2, 4, 7, 8)); l != 15 {
			t.Error(o, l)
		}
		wantGates(t, g, 5, [][2]lit.Lit{{5, 3}, {10, 6}, {12, 9}})
		g, _ = withInputs(t, o, 3)
		if l := must(t)(g.Xor(2, 4, 6)); l != 19 {
			t.Error(o, l)
		}
		wantGates(t, g, 4, [][2]lit.Lit{{5, 2}, {4, 3}, {11, 9}, {13, 7}, {12, 6}, {17, 15}})
	}
}

// wantGates fails, if the nodes from the first on are not these gates, and all that there are.
func wantGates(t *testing.T, g *aig.Graph, first int, gates [][2]lit.Lit) {
	t.Helper()
	if g.Nodes() != first+len(gates) {
		t.Errorf("%v: %d nodes, not %d", g.Options(), g.Nodes(), first+len(gates))
	}
	for i, x := range gates {
		if a, b, is := g.Gate(first + i); a != x[0] || b != x[1] || !is {
			t.Errorf("%v: Gate(%d): %d, %d, %v, not %v", g.Options(), first+i, a, b, is, x)
		}
	}
}

// P3.2: the order in which Xor and Mux make their gates.
func TestOrderOfGates(t *testing.T) {
	for _, o := range theOptions() {
		g, _ := withInputs(t, o, 2)
		if l := must(t)(g.Xor(2, 4)); l != 11 {
			t.Error(o, l)
		}
		wantGates(t, g, 3, [][2]lit.Lit{{5, 2}, {4, 3}, {9, 7}})
		g, _ = withInputs(t, o, 2)
		if l := must(t)(g.Xor(4, 2)); l != 11 {
			t.Error(o, l)
		}
		wantGates(t, g, 3, [][2]lit.Lit{{4, 3}, {5, 2}, {9, 7}})
		g, _ = withInputs(t, o, 3)
		if l := must(t)(g.Mux(2, 4, 6)); l != 13 {
			t.Error(o, l)
		}
		wantGates(t, g, 4, [][2]lit.Lit{{4, 2}, {6, 3}, {11, 9}})
		g, _ = withInputs(t, o, 3)
		if l := must(t)(g.Mux(7, 2, 5)); l != 13 {
			t.Error(o, l)
		}
		wantGates(t, g, 4, [][2]lit.Lit{{7, 2}, {6, 5}, {11, 9}})
	}
}

// P3.2: Or's gate.
func TestOr(t *testing.T) {
	for _, o := range theOptions() {
		g, _ := withInputs(t, o, 2)
		if l := must(t)(g.Or(3, 4)); l != 7 {
			t.Error(o, l)
		}
		wantGates(t, g, 3, [][2]lit.Lit{{5, 2}})
	}
}

// The document's examples.
func TestExamples(t *testing.T) {
	g, _ := withInputs(t, both, 2)
	for i, x := range []struct {
		l    []lit.Lit
		want lit.Lit
	}{{[]lit.Lit{2, 4}, 6}, {[]lit.Lit{4, 2}, 6}, {[]lit.Lit{2, 3}, 0}, {[]lit.Lit{2, 1}, 2}, {nil, 1}} {
		if l, e := g.And(x.l...); e != api.OK || l != x.want {
			t.Error(i, l, e)
		}
	}
	if l, e := g.Or(2, 4); e != api.OK || l != 9 {
		t.Error(l, e)
	}
	if a, b, is := g.Gate(4); a != 5 || b != 3 || !is {
		t.Error(a, b, is)
	}
	g, _ = withInputs(t, aig.Options{}, 2)
	for _, want := range []lit.Lit{6, 8} {
		if l, e := g.And(2, 2); e != api.OK || l != want {
			t.Error(l, e, want)
		}
	}
}

// P3.1, P3.2: a literal whose node is not there, alone or among many: then nothing is made.
func TestNotThere(t *testing.T) {
	for _, o := range theOptions() {
		g, as := withInputs(t, o, 2)
		must(t)(g.And(2, 4))
		as.and(2, 4)
		for _, far := range []lit.Lit{8, 9, 10, 1000, 2*lit.MaxNode + 1, 2*lit.MaxNode + 2, 1 << 31, math.MaxUint32 - 1, math.MaxUint32} {
			for _, row := range [][]lit.Lit{{far}, {far, 2}, {2, far}, {far, far}, {0, far}, {1, far}, {2, 5, far}, {2, 5, 3, far, 4}, {2, 3, 0, 1, 4, 5, far}} {
				for i, f := range []func(...lit.Lit) (lit.Lit, api.Errno){g.And, g.Or, g.Xor} {
					if l, e := f(row...); e != api.ErrArg || l != 0 {
						t.Errorf("%v: %d of %v: %d, error %d", o, i, row, l, e)
					}
				}
			}
			for _, x := range [][3]lit.Lit{{far, 2, 5}, {2, far, 5}, {2, 5, far}, {0, far, 5}, {1, 5, far}, {far, 0, 0}, {far, far, far}} {
				if l, e := g.Mux(x[0], x[1], x[2]); e != api.ErrArg || l != 0 {
					t.Errorf("%v: Mux of %v: %d, error %d", o, x, l, e)
				}
			}
			for _, x := range [][2]lit.Lit{{far, 2}, {2, far}, {far, far}, {0, far}} {
				if l, e := g.Raw(x[0], x[1]); e != api.ErrArg || l != 0 {
					t.Errorf("%v: Raw of %v: %d, error %d", o, x, l, e)
				}
			}
			mustBe(t, g, as)
		}
		if l := must(t)(g.Raw(7, 7)); l != 8 {
			t.Error(o, l)
		}
	}
}

// P3.1, P3.2: the literal that a call would make is not there ahead of it.
func TestOwnLiteral(t *testing.T) {
	g := aig.New(aig.Options{})
	if l, e := g.Raw(2, 1); e != api.ErrArg || l != 0 {
		t.Error(l, e)
	}
	if l, e := g.And(1, 1, 2); e != api.ErrArg || l != 0 || g.Nodes() != 1 {
		t.Error(l, e, g.Nodes())
	}
}

// filled is a graph with gates such that just left more may be made.
func filled(t *testing.T, o aig.Options, inputs, left int) *aig.Graph {
	t.Helper()
	g, _ := withInputs(t, o, inputs)
	for range api.MaxGates - left {
		must(t)(g.Raw(2, 5))
	}
	return g
}

// P3.1: Input of a graph with as many inputs and gates as may be.
func TestFullOfInputs(t *testing.T) {
	for _, o := range theOptions() {
		g := filled(t, o, api.MaxRegs-1, 0)
		if l, e := g.Input(); e != api.OK || int(l) != 2*(api.MaxRegs+api.MaxGates) {
			t.Error(o, l, e)
		}
		for range 2 {
			if l, e := g.Input(); e != api.ErrFull || l != 0 {
				t.Error(o, l, e)
			}
		}
		if g.Nodes() != 1+api.MaxRegs+api.MaxGates || len(g.Inputs()) != api.MaxRegs || g.Gates() != api.MaxGates {
			t.Error(o, g.Nodes(), len(g.Inputs()), g.Gates())
		}
	}
}

// P3.1: inputs alone may be as many as inputs and gates; gates go on then, inputs don't.
func TestInputsAlone(t *testing.T) {
	g, _ := withInputs(t, both, api.MaxRegs+api.MaxGates)
	if l, e := g.Input(); e != api.ErrFull || l != 0 {
		t.Error(l, e)
	}
	nodes := g.Nodes()
	if l, e := g.Raw(2, 4); e != api.OK || int(l) != 2*nodes {
		t.Error(l, e)
	}
	if l, e := g.And(2, 7); e != api.OK || int(l) != 2*nodes+2 {
		t.Error(l, e)
	}
	if l, e := g.Input(); e != api.ErrFull || l != 0 {
		t.Error(l, e)
	}
	if g.Nodes() != nodes+2 || g.Gates() != 2 || len(g.Inputs()) != nodes-1 {
		t.Error(g.Nodes(), g.Gates(), len(g.Inputs()))
	}
}

// P3.1, P3.2: a full graph makes no gate; what needs none is told all the same; a literal that is not there comes first.
func TestFull(t *testing.T) {
	for _, o := range theOptions() {
		g := filled(t, o, 2, 1)
		if l, e := g.Raw(2, 5); e != api.OK || int(l) != 2*(2+api.MaxGates) {
			t.Error(o, l, e)
		}
		was := g.Copy()
		wantFull(t, o, g)
		far := lit.Lit(2 * g.Nodes())
		if l, e := g.Raw(2, far); e != api.ErrArg || l != 0 {
			t.Error(o, l, e)
		}
		if l, e := g.And(2, 4, far); e != api.ErrArg || l != 0 {
			t.Error(o, l, e)
		}
		if l, e := g.Mux(2, 4, far); e != api.ErrArg || l != 0 {
			t.Error(o, l, e)
		}
		if l, e := g.And(); e != api.OK || l != 1 {
			t.Error(o, l, e)
		}
		if l, e := g.Or(5); e != api.OK || l != 5 {
			t.Error(o, l, e)
		}
		if l, e := g.And(2, 2); o.Fold && (e != api.OK || l != 2) || !o.Fold && (e != api.ErrFull || l != 0) {
			t.Error(o, l, e)
		}
		if l, e := g.And(5, 2); o.Hash && (e != api.OK || l != 6) || !o.Hash && (e != api.ErrFull || l != 0) {
			t.Error(o, l, e)
		}
		if l, e := g.Or(4, 3); o.Hash && (e != api.OK || l != 7) || !o.Hash && (e != api.ErrFull || l != 0) {
			t.Error(o, l, e)
		}
		if !aig.Same(g, was) || g.Gates() != api.MaxGates {
			t.Error(o, "a full graph has changed")
		}
		if l, e := g.Input(); e != api.OK || int(l) != 2*(3+api.MaxGates) {
			t.Error(o, l, e)
		}
	}
}

// wantFull fails, if a full graph of two inputs, and gates of 5 and 2 alone, makes another gate.
func wantFull(t *testing.T, o aig.Options, g *aig.Graph) {
	t.Helper()
	full := func(l lit.Lit, e api.Errno) {
		t.Helper()
		if e != api.ErrFull || l != 0 {
			t.Errorf("%v: %d, error %d", o, l, e)
		}
	}
	full(g.Raw(2, 5))
	full(g.Raw(0, 0))
	full(g.And(2, 4))
	full(g.Or(2, 4))
	full(g.Xor(3, 5))
	full(g.Mux(3, 4, 5))
	full(g.And(1, 2, 4))
}

// P3.2: what was made ahead of ErrFull stays.
func TestFullStays(t *testing.T) {
	for _, o := range theOptions() {
		for left := range 3 {
			for i, f := range []func(g *aig.Graph) (lit.Lit, api.Errno){
				func(g *aig.Graph) (lit.Lit, api.Errno) { return g.And(3, 4, 6, 9) },
				func(g *aig.Graph) (lit.Lit, api.Errno) { return g.Or(2, 5, 6, 9) },
				func(g *aig.Graph) (lit.Lit, api.Errno) { return g.Xor(4, 2, 6) },
				func(g *aig.Graph) (lit.Lit, api.Errno) { return g.Mux(3, 4, 6) },
			} {
				g := filled(t, o, 4, left)
				was := g.Nodes()
				if l, e := f(g); e != api.ErrFull || l != 0 {
					t.Errorf("%v: %d, %d left: %d, error %d", o, i, left, l, e)
				}
				if g.Gates() != api.MaxGates || g.Nodes() != was+left {
					t.Errorf("%v: %d, %d left: %d gates", o, i, left, g.Gates())
				}
				if a, b, is := g.Gate(was); left > 0 && (a != 4 || b != 3 || !is) {
					t.Errorf("%v: %d, %d left: the gate made is %d, %d, %v", o, i, left, a, b, is)
				}
				if l, e := g.And(3, 4); left > 0 && o.Hash && (e != api.OK || l.Node() != was) {
					t.Errorf("%v: %d, %d left: And(3, 4): %d, error %d", o, i, left, l, e)
				}
			}
		}
	}
}

// P3.3: Gate of what is no gate.
func TestNoGate(t *testing.T) {
	for _, o := range theOptions() {
		g, _ := withInputs(t, o, 2)
		must(t)(g.And(2, 4))
		for _, node := range []int{0, 1, 2, 4, 5, -1, -3, math.MinInt, math.MaxInt, 1 << 32, 1<<32 + 3} {
			if a, b, is := g.Gate(node); a != 0 || b != 0 || is {
				t.Errorf("%v: Gate(%d): %d, %d, %v", o, node, a, b, is)
			}
		}
		if a, b, is := g.Gate(3); a != 4 || b != 2 || !is {
			t.Error(o, a, b, is)
		}
	}
}

// P3.3: the inputs that are told are new memory.
func TestInputsAreApart(t *testing.T) {
	g, as := withInputs(t, both, 3)
	told := g.Inputs()
	told[0], told[2] = 7, 8
	_ = append(told[:1], 9, 9, 9)
	mustBe(t, g, as)
	words, e := g.Eval([]uint64{1, 2, 3})
	if e != api.OK || !slices.Equal(words, []uint64{0, 1, 2, 3}) {
		t.Error(words, e)
	}
}

// P3.3: a copy has the same, and goes on apart from its graph, as the graph does from it.
func TestCopy(t *testing.T) {
	for _, o := range theOptions() {
		for seed := range uint64(30) {
			g, as := grown(t, o, seed, 25, true)
			h := g.Copy()
			hs := &told{as.o, slices.Clone(as.nodes)}
			if h == g || !aig.Same(g, h) {
				t.Fatal(o, "the copy is the graph, or another one")
			}
			mustBe(t, h, hs)
			d, e := dice(seed+100), dice(seed+200)
			for range 20 {
				step(t, &d, g, as, true)
				step(t, &e, h, hs, true)
			}
			mustBe(t, g, as)
			mustBe(t, h, hs)
		}
	}
}

// P3.3: what a copy makes is not found by its graph, nor the other way round.
func TestCopyFindsItsOwn(t *testing.T) {
	for _, o := range theOptions() {
		g, _ := withInputs(t, o, 3)
		h := g.Copy()
		if l := must(t)(h.And(2, 4)); l != 8 {
			t.Error(o, l)
		}
		if l := must(t)(g.And(4, 6)); l != 8 {
			t.Error(o, l)
		}
		if l := must(t)(g.And(2, 4)); l != 10 {
			t.Error(o, l)
		}
		if l := must(t)(h.And(4, 6)); l != 10 {
			t.Error(o, l)
		}
		if aig.Same(g, h) || g.Nodes() != 6 || h.Nodes() != 6 {
			t.Error(o, g.Nodes(), h.Nodes())
		}
		if l, e := h.Input(); e != api.OK || l != 12 || !slices.Equal(g.Inputs(), []int{1, 2, 3}) {
			t.Error(o, l, e, g.Inputs())
		}
	}
}

// P3.3: Same.
func TestSame(t *testing.T) {
	make2 := func(o aig.Options, do func(g *aig.Graph)) *aig.Graph {
		g, _ := withInputs(t, o, 2)
		do(g)
		return g
	}
	dos := []func(g *aig.Graph){
		func(g *aig.Graph) {},
		func(g *aig.Graph) { g.Input() },
		func(g *aig.Graph) { g.Raw(0, 0) },
		func(g *aig.Graph) { g.Raw(2, 4) },
		func(g *aig.Graph) { g.Raw(2, 5) },
		func(g *aig.Graph) { g.Raw(3, 4) },
		func(g *aig.Graph) { g.Raw(2, 4); g.Input() },
		func(g *aig.Graph) { g.Input(); g.Raw(2, 4) },
		func(g *aig.Graph) { g.Raw(2, 4); g.Raw(2, 4) },
		func(g *aig.Graph) { g.Raw(2, 4); g.Raw(2, 6) },
		func(g *aig.Graph) { g.Input(); g.Input() },
	}
	for i, a := range dos {
		for j, b := range dos {
			for _, o := range theOptions() {
				for _, p := range theOptions() {
					if is := aig.Same(make2(o, a), make2(p, b)); is != (i == j && o == p) {
						t.Errorf("%d of %v, %d of %v: %v", i, o, j, p, is)
					}
				}
			}
		}
	}
}

// P3.3: how a gate was made does not matter.
func TestSameHoweverMade(t *testing.T) {
	for _, o := range theOptions() {
		g, _ := withInputs(t, o, 2)
		h, _ := withInputs(t, o, 2)
		must(t)(g.And(2, 4))
		must(t)(h.Raw(4, 2))
		if !aig.Same(g, h) || !aig.Same(g, g) {
			t.Error(o)
		}
	}
}

// P3.4: Eval, gate by gate, as the document tells it; what is handed in stays, and what is answered is new.
func TestEval(t *testing.T) {
	for _, o := range theOptions() {
		for seed := range uint64(40) {
			g, as := grown(t, o, seed, 40, true)
			d := dice(seed)
			in := make([]uint64, len(g.Inputs()))
			for i := range in {
				in[i] = uint64(d.roll(1<<31))<<33 ^ uint64(d.roll(1<<31))<<11 ^ uint64(d.roll(1<<31))
			}
			given := slices.Clone(in)
			words, e := g.Eval(in)
			if e != api.OK || !slices.Equal(words, wordsOf(as, in)) || !slices.Equal(in, given) {
				t.Fatalf("%v: Eval(%x): %x, error %d", o, given, words, e)
			}
			want := slices.Clone(words)
			clear(words)
			clear(in)
			if again, e := g.Eval(given); e != api.OK || !slices.Equal(again, want) {
				t.Fatalf("%v: Eval(%x), again: %x, error %d", o, given, again, e)
			}
			mustBe(t, g, as)
		}
	}
}

// wordsOf is each node's word, as the document tells it.
func wordsOf(g *told, in []uint64) []uint64 {
	var words []uint64
	of := func(l lit.Lit) uint64 {
		if l%2 == 1 {
			return ^words[l/2]
		}
		return words[l/2]
	}
	at := 0
	for _, n := range g.nodes {
		switch n.kind {
		case constant:
			words = append(words, 0)
		case input:
			words = append(words, in[at])
			at++
		case gate:
			words = append(words, of(n.a)&of(n.b))
		}
	}
	return words
}

// P3.4: Eval of gates of constants, and of inputs behind gates.
func TestEvalEdges(t *testing.T) {
	for _, o := range theOptions() {
		g := aig.New(o)
		for _, x := range [][2]lit.Lit{{0, 0}, {0, 1}, {1, 1}} {
			must(t)(g.Raw(x[0], x[1]))
		}
		must(t)(g.Input())
		must(t)(g.Raw(8, 9))
		must(t)(g.Raw(9, 1))
		must(t)(g.Input())
		must(t)(g.Raw(14, 8))
		words, e := g.Eval([]uint64{0xf0, 0x3c})
		if want := []uint64{0, 0, 0, all, 0xf0, 0, all - 0xf0, 0x3c, 0x30}; e != api.OK || !slices.Equal(words, want) {
			t.Errorf("%v: %x, error %d", o, words, e)
		}
	}
}

// P3.4: Eval of a graph without inputs, and with too few or too many words.
func TestEvalWords(t *testing.T) {
	for _, o := range theOptions() {
		g := aig.New(o)
		for _, none := range [][]uint64{nil, {}} {
			if words, e := g.Eval(none); e != api.OK || !slices.Equal(words, []uint64{0}) {
				t.Error(o, words, e)
			}
		}
		if words, e := g.Eval([]uint64{1}); e != api.ErrArg || len(words) != 0 {
			t.Error(o, words, e)
		}
		must(t)(g.Raw(1, 1))
		if words, e := g.Eval(nil); e != api.OK || !slices.Equal(words, []uint64{0, all}) {
			t.Error(o, words, e)
		}
		g, _ = withInputs(t, o, 3)
		must(t)(g.Raw(2, 4))
		for n := range 7 {
			words, e := g.Eval(make([]uint64, n))
			if n == 3 && (e != api.OK || len(words) != 5) || n != 3 && (e != api.ErrArg || len(words) != 0) {
				t.Error(o, n, words, e)
			}
		}
	}
}

// P3.5: in each lane And, Or, Xor, Mux are what they say, for all literals of a small graph.
func TestMeaning(t *testing.T) {
	for _, o := range theOptions() {
		for seed := range uint64(12) {
			g, _ := grown(t, o, seed, 6, true)
			d := dice(seed)
			for range 60 {
				meanWhatTheySay(t, &d, g)
			}
		}
	}
}

// meanWhatTheySay makes And, Or, Xor and Mux of literals of g, and holds their words against what they say.
func meanWhatTheySay(t *testing.T, d *dice, g *aig.Graph) {
	t.Helper()
	l, m := d.lits(d.roll(6), g.Nodes()), d.lits(3, g.Nodes())
	and := must(t)(g.And(l...))
	or := must(t)(g.Or(l...))
	xor := must(t)(g.Xor(l...))
	mux := must(t)(g.Mux(m[0], m[1], m[2]))
	in := make([]uint64, len(g.Inputs()))
	for i := range in {
		in[i] = uint64(d.roll(1<<31))<<33 ^ uint64(d.roll(1<<31))<<11 ^ uint64(d.roll(1<<31))
	}
	words, e := g.Eval(in)
	if e != api.OK {
		t.Fatal(e)
	}
	bit := func(l lit.Lit, lane int) uint64 { return l.Word(words) >> lane & 1 }
	for lane := range 64 {
		ones := uint64(0)
		for _, x := range l {
			ones += bit(x, lane)
		}
		chosen := bit(m[2], lane)
		if bit(m[0], lane) == 1 {
			chosen = bit(m[1], lane)
		}
		if is := bit(and, lane) == 1; is != (ones == uint64(len(l))) {
			t.Fatalf("%v: And(%v), lane %d: %v", g.Options(), l, lane, is)
		}
		if is := bit(or, lane) == 1; is != (ones > 0) {
			t.Fatalf("%v: Or(%v), lane %d: %v", g.Options(), l, lane, is)
		}
		if bit(xor, lane) != ones%2 {
			t.Fatalf("%v: Xor(%v), lane %d: %d", g.Options(), l, lane, bit(xor, lane))
		}
		if bit(mux, lane) != chosen {
			t.Fatalf("%v: Mux(%v), lane %d: %d", g.Options(), m, lane, bit(mux, lane))
		}
	}
}

// P3.6: with both options, without Raw, nothing is there twice, and no gate is one that folds.
func TestNothingTwice(t *testing.T) {
	for seed := range uint64(60) {
		g, _ := grown(t, both, seed, 80, false)
		seen := map[[2]lit.Lit]int{}
		for node := range g.Nodes() {
			a, b, is := g.Gate(node)
			if !is {
				continue
			}
			if a < 2 || b < 2 || a == b || a == b^1 || a < b || int(a) >= 2*node {
				t.Errorf("Gate(%d): %d, %d", node, a, b)
			}
			if seen[[2]lit.Lit{a, b}]++; seen[[2]lit.Lit{a, b}] > 1 {
				t.Errorf("Gate(%d): %d, %d, as another one", node, a, b)
			}
			was := g.Copy()
			if l, m := must(t)(g.And(a, b)), must(t)(g.And(b, a)); l.Node() != node || l.Turned() || m != l {
				t.Errorf("And(%d, %d), again: %d, %d", a, b, l, m)
			}
			if !aig.Same(g, was) {
				t.Fatalf("And(%d, %d), again, has made something", a, b)
			}
		}
	}
}

// P3.6: And of the same literals, the other way round too, is the same literal, and makes nothing.
func TestAndAgain(t *testing.T) {
	for seed := range uint64(20) {
		g, _ := grown(t, both, seed, 12, false)
		most := lit.Lit(2 * g.Nodes())
		for a := range most {
			for b := range most {
				l := must(t)(g.And(a, b))
				nodes := g.Nodes()
				if m, n := must(t)(g.And(b, a)), must(t)(g.And(a, b)); m != l || n != l || g.Nodes() != nodes {
					t.Fatalf("And(%d, %d): %d, then %d, %d", a, b, l, m, n)
				}
			}
		}
	}
}

// P3.1 to P3.4: a graph that New did not make, and none, in every call; ErrNil comes ahead of ErrArg.
func TestNone(t *testing.T) {
	for i, g := range []*aig.Graph{nil, {}, new(aig.Graph)} {
		refused := func(l lit.Lit, e api.Errno) {
			t.Helper()
			if e != api.ErrNil || l != 0 {
				t.Errorf("%d: %d, error %d", i, l, e)
			}
		}
		for range 2 {
			refused(g.Input())
			for _, row := range [][]lit.Lit{nil, {}, {0}, {1}, {2}, {0, 1}, {1, 1}, {2, 4}, {1000, 1, 2}} {
				refused(g.And(row...))
				refused(g.Or(row...))
				refused(g.Xor(row...))
			}
			for _, x := range [][3]lit.Lit{{0, 0, 0}, {1, 0, 1}, {2, 4, 6}} {
				refused(g.Mux(x[0], x[1], x[2]))
				refused(g.Raw(x[0], x[1]))
			}
			for _, in := range [][]uint64{nil, {}, {1}} {
				if words, e := g.Eval(in); e != api.ErrNil || len(words) != 0 {
					t.Error(i, words, e)
				}
			}
			for _, node := range []int{-1, 0, 1, 2} {
				if a, b, is := g.Gate(node); a != 0 || b != 0 || is {
					t.Error(i, node, a, b, is)
				}
			}
			if g.Nodes() != 0 || g.Gates() != 0 || len(g.Inputs()) != 0 || g.Options() != (aig.Options{}) || g.Copy() != nil {
				t.Error(i, g.Nodes(), g.Gates(), g.Inputs(), g.Options(), g.Copy())
			}
		}
	}
}

// P3.3: Same of those that are none, or that New did not make.
func TestSameOfNone(t *testing.T) {
	nones := []*aig.Graph{nil, {}, new(aig.Graph)}
	for i, a := range nones {
		for j, b := range nones {
			if !aig.Same(a, b) {
				t.Error(i, j)
			}
		}
		for _, o := range theOptions() {
			if aig.Same(a, aig.New(o)) || aig.Same(aig.New(o), a) {
				t.Error(i, o)
			}
		}
	}
}
