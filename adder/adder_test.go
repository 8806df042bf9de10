package adder_test

import (
	"math"
	"math/bits"
	"slices"
	"testing"

	"orrery/adder"
	"orrery/aig"
	"orrery/api"
	"orrery/cone"
	"orrery/lit"
)

// row is literals.
type row = []lit.Lit

// plain is a graph's options, if it neither folds nor hashes; both, if it does both.
var (
	plain = aig.Options{}
	both  = aig.Options{Fold: true, Hash: true}
)

// theOptions are all four settings.
func theOptions() []aig.Options {
	return []aig.Options{plain, {Fold: true}, {Hash: true}, both}
}

// ways are both ways to add.
func ways() []int { return []int{adder.Ripple, adder.Ahead} }

// dice tells the same numbers in each run.
type dice uint64

// roll is a number below n.
func (d *dice) roll(n int) int {
	*d = *d*6364136223846793005 + 1442695040888963407
	return int(uint64(*d) >> 33 % uint64(n))
}

// word is any word.
func (d *dice) word() uint64 {
	return uint64(d.roll(1<<31))<<33 ^ uint64(d.roll(1<<31))<<11 ^ uint64(d.roll(1<<31))
}

// words are n of them.
func (d *dice) words(n int) []uint64 {
	w := make([]uint64, n)
	for i := range w {
		w[i] = d.word()
	}
	return w
}

// lits are n literals of nodes below nodes.
func (d *dice) lits(n, nodes int) row {
	l := make(row, n)
	for i := range l {
		l[i] = lit.Lit(d.roll(2 * nodes))
	}
	return l
}

// must is l, where no error may be.
func must(t *testing.T) func(l lit.Lit, e api.Errno) lit.Lit {
	return func(l lit.Lit, e api.Errno) lit.Lit {
		t.Helper()
		if e != api.OK {
			t.Fatalf("error %d", e)
		}
		return l
	}
}

// inputs are n new inputs of g.
func inputs(t *testing.T, g *aig.Graph, n int) row {
	t.Helper()
	l := make(row, n)
	for i := range l {
		l[i] = must(t)(g.Input())
	}
	return l
}

// of is a graph of inputs alone: two rows of n, and then a carry.
func of(t *testing.T, o aig.Options, n int) (g *aig.Graph, a, b row, in lit.Lit) {
	t.Helper()
	g = aig.New(o)
	return g, inputs(t, g, n), inputs(t, g, n), inputs(t, g, 1)[0]
}

// grown is a graph of inputs and of some gates.
func grown(t *testing.T, o aig.Options, d *dice) *aig.Graph {
	t.Helper()
	g := aig.New(o)
	inputs(t, g, 1+d.roll(12))
	for range d.roll(12) {
		l := d.lits(2, g.Nodes())
		must(t)(g.Raw(l[0], l[1]))
	}
	return g
}

// ripple adds on g bit by bit, as the document tells it.
func ripple(t *testing.T, g *aig.Graph, a, b row, c lit.Lit) (sum row, out lit.Lit) {
	t.Helper()
	if len(a) == 0 {
		return nil, c
	}
	x := must(t)(g.Xor(a[0], b[0]))
	bit := must(t)(g.Xor(x, c))
	first := must(t)(g.And(a[0], b[0]))
	second := must(t)(g.And(x, c))
	rest, out := ripple(t, g, a[1:], b[1:], must(t)(g.Or(first, second)))
	return append(row{bit}, rest...), out
}

// ahead adds on g looking ahead, as the document tells it: each d has new rows of G and P.
func ahead(t *testing.T, g *aig.Graph, a, b row, in lit.Lit) (sum row, out lit.Lit) {
	t.Helper()
	n := len(a)
	var gs, ps []row
	var first, x row
	for i := range n {
		first = append(first, must(t)(g.And(a[i], b[i])))
		x = append(x, must(t)(g.Xor(a[i], b[i])))
	}
	gs, ps = append(gs, first), append(ps, x)
	for _, d := range []int{1, 2, 4, 8, 16, 32} {
		if d >= n {
			break
		}
		oldG, oldP := gs[len(gs)-1], ps[len(ps)-1]
		newG, newP := slices.Clone(oldG[:d]), slices.Clone(oldP[:d])
		for i := d; i < n; i++ {
			from := must(t)(g.And(oldP[i], oldG[i-d]))
			newG = append(newG, must(t)(g.Or(oldG[i], from)))
			newP = append(newP, must(t)(g.And(oldP[i], oldP[i-d])))
		}
		gs, ps = append(gs, newG), append(ps, newP)
	}
	c := in
	for i := range n {
		sum = append(sum, must(t)(g.Xor(x[i], c)))
		c = must(t)(g.Or(gs[len(gs)-1][i], must(t)(g.And(ps[len(ps)-1][i], in))))
	}
	return sum, c
}

// told adds on g, as the document tells it.
func told(t *testing.T, g *aig.Graph, how int, a, b row, in lit.Lit) (sum row, out lit.Lit) {
	t.Helper()
	if how == adder.Ripple {
		return ripple(t, g, a, b, in)
	}
	return ahead(t, g, a, b, in)
}

// added is what Add tells, where no error may be.
func added(t *testing.T, g *aig.Graph, how int, a, b row, in lit.Lit) (sum row, out lit.Lit) {
	t.Helper()
	sum, out, e := adder.Add(g, how, a, b, in)
	if e != api.OK || len(sum) != len(a) {
		t.Fatalf("Add(%v, %d, %v, %v, %d): %v, %d, error %d", g.Options(), how, a, b, in, sum, out, e)
	}
	return sum, out
}

// asTold adds, and fails, if the answer or the graph is another than the document tells, or if a or b has been changed.
func asTold(t *testing.T, g *aig.Graph, how int, a, b row, in lit.Lit) {
	t.Helper()
	want := g.Copy()
	wantSum, wantOut := told(t, want, how, a, b, in)
	wasA, wasB := slices.Clone(a), slices.Clone(b)
	sum, out := added(t, g, how, a, b, in)
	if !slices.Equal(a, wasA) || !slices.Equal(b, wasB) {
		t.Fatalf("Add(%v, %d, %v, %v, %d) has made them %v, %v", g.Options(), how, wasA, wasB, in, a, b)
	}
	if !slices.Equal(sum, wantSum) || out != wantOut {
		t.Fatalf("Add(%v, %d, %v, %v, %d): %v, %d, not %v, %d", g.Options(), how, a, b, in, sum, out, wantSum, wantOut)
	}
	if !aig.Same(g, want) {
		t.Fatalf("Add(%v, %d, %v, %v, %d): other gates than told", g.Options(), how, a, b, in)
	}
}

// P12.1: of inputs, of each length: the answer, and each gate, in the order that the document tells.
func TestOfInputs(t *testing.T) {
	for _, o := range theOptions() {
		for _, how := range ways() {
			for n := 1; n <= 64; n++ {
				g, a, b, in := of(t, o, n)
				asTold(t, g, how, a, b, in)
			}
		}
	}
}

// P12.1: of literals of all kinds, constants and gates and the same ones more than once, one sum after the other on one graph.
func TestOfAnyLiterals(t *testing.T) {
	for _, o := range theOptions() {
		for seed := range uint64(60) {
			d := dice(seed)
			g := grown(t, o, &d)
			for range 8 {
				n := 1 + d.roll(1+d.roll(64))
				l := d.lits(2*n+1, g.Nodes())
				asTold(t, g, ways()[d.roll(2)], l[:n], l[n:2*n], l[2*n])
			}
		}
	}
}

// P12.1: of all literals of two inputs, up to two bits.
func TestOfAllLiterals(t *testing.T) {
	for _, o := range theOptions() {
		for _, how := range ways() {
			for n := 1; n <= 2; n++ {
				l := make(row, 2*n+1)
				for number := range int(math.Pow(6, float64(len(l)))) {
					for i := range l {
						l[i] = lit.Lit(number % 6)
						number /= 6
					}
					g := aig.New(o)
					inputs(t, g, 2)
					asTold(t, g, how, l[:n], l[n:2*n], l[2*n])
				}
			}
		}
	}
}

// P12.1: the gates, written out.
func TestGatesWrittenOut(t *testing.T) {
	for i, x := range []struct {
		how, n int
		gates  [][2]lit.Lit
		sum    row
		out    lit.Lit
	}{
		{adder.Ripple, 1, [][2]lit.Lit{{5, 2}, {4, 3}, {11, 9}, {13, 7}, {12, 6}, {17, 15}, {4, 2}, {13, 6}, {23, 21}}, row{19}, 25},
		{adder.Ahead, 1, [][2]lit.Lit{{4, 2}, {5, 2}, {4, 3}, {13, 11}, {15, 7}, {14, 6}, {19, 17}, {15, 6}, {23, 9}}, row{21}, 25},
		{adder.Ripple, 2, [][2]lit.Lit{
			{7, 2}, {6, 3}, {15, 13}, {17, 11}, {16, 10}, {21, 19}, {6, 2}, {17, 10}, {27, 25},
			{9, 4}, {8, 5}, {33, 31}, {35, 28}, {34, 29}, {39, 37}, {8, 4}, {35, 29}, {45, 43},
		}, row{23, 41}, 47},
		{adder.Ahead, 2, [][2]lit.Lit{
			{6, 2}, {7, 2}, {6, 3}, {17, 15}, {8, 4}, {9, 4}, {8, 5}, {25, 23},
			{27, 12}, {29, 21}, {27, 19},
			{19, 11}, {18, 10}, {37, 35}, {19, 10}, {41, 13}, {42, 27}, {43, 26}, {47, 45}, {32, 10}, {51, 30},
		}, row{39, 49}, 53},
	} {
		g, a, b, in := of(t, plain, x.n)
		first := g.Nodes()
		sum, out := added(t, g, x.how, a, b, in)
		if !slices.Equal(sum, x.sum) || out != x.out || g.Nodes() != first+len(x.gates) {
			t.Errorf("%d: %v, %d, %d nodes", i, sum, out, g.Nodes())
		}
		for k, gate := range x.gates {
			if l, m, is := g.Gate(first + k); l != gate[0] || m != gate[1] || !is {
				t.Errorf("%d: gate %d: %d, %d, %v, not %v", i, k, l, m, is, gate)
			}
		}
	}
}

// P12.1: with d = 2 the third bit leans on the first one, as it was ahead of d = 2; with d = 1 on the second one, as it was ahead of d = 1.
func TestWhatWasAhead(t *testing.T) {
	g, a, b, in := of(t, plain, 3)
	added(t, g, adder.Ahead, a, b, in)
	// The inputs are the nodes 1 to 7; G and P of the bits are made by the nodes 8 to 11, 12 to 15 and 16 to 19.
	g0, p0, g1, p1, g2, p2 := lit.Lit(16), lit.Lit(23), lit.Lit(24), lit.Lit(31), lit.Lit(32), lit.Lit(39)
	for node, gate := range map[int][2]lit.Lit{
		20: {p1, g0}, 21: {41, g1.Not()}, 22: {p1, p0},
		23: {p2, g1}, 24: {47, g2.Not()}, 25: {p2, p1},
		26: {50, g0}, 27: {53, 48}, 28: {50, p0},
	} {
		if l, m, is := g.Gate(node); l != gate[0] || m != gate[1] || !is {
			t.Errorf("gate %d: %d, %d, %v, not %v", node, l, m, is, gate)
		}
	}
}

// The document's examples, the first one both ways.
func TestExamples(t *testing.T) {
	for _, how := range ways() {
		g := aig.New(aig.Options{Fold: true})
		sum, out := added(t, g, how, lit.Const(3, 3), lit.Const(6, 3), lit.True)
		if n, is := lit.Number(sum); n != 2 || !is || out != lit.True || g.Gates() != 0 {
			t.Error(how, sum, out, g.Gates())
		}
	}
	for how, gates := range map[int]int{adder.Ripple: 36, adder.Ahead: 51} {
		g, a, b, in := of(t, plain, 4)
		added(t, g, how, a, b, in)
		if g.Gates() != gates {
			t.Error(how, g.Gates())
		}
	}
	if adder.Ripple != 1 || adder.Ahead != 2 {
		t.Error(adder.Ripple, adder.Ahead)
	}
}

// numberIn is the number of l in a lane.
func numberIn(words []uint64, lane int, l ...lit.Lit) uint64 {
	n := uint64(0)
	for i, one := range l {
		n |= one.Word(words) >> lane & 1 << i
	}
	return n
}

// wantSum fails, if a sum is wrong in a lane under these words of the inputs.
func wantSum(t *testing.T, g *aig.Graph, in []uint64, a, b row, carry lit.Lit, sum row, out lit.Lit) {
	t.Helper()
	words, e := g.Eval(in)
	if e != api.OK {
		t.Fatal(e)
	}
	for lane := range 64 {
		x, y, c := numberIn(words, lane, a...), numberIn(words, lane, b...), numberIn(words, lane, carry)
		low, high := bits.Add64(x, y, c)
		if n := len(a); n < 64 {
			low, high = low&(1<<n-1), low>>n
		}
		if s, o := numberIn(words, lane, sum...), numberIn(words, lane, out); s != low || o != high {
			t.Fatalf("%v: %d and %d and %d, of %d bits: %d, %d, not %d, %d", g.Options(), x, y, c, len(a), s, o, low, high)
		}
	}
}

// P12.2: both ways, of all numbers of up to 5 bits, and of a carry.
func TestSumOfAllNumbers(t *testing.T) {
	for _, o := range theOptions() {
		for n := 1; n <= 5; n++ {
			g, a, b, in := of(t, o, n)
			sum, out := added(t, g, adder.Ripple, a, b, in)
			ahead, aheadOut := added(t, g, adder.Ahead, a, b, in)
			all := 1 << (2*n + 1)
			for from := 0; from < all; from += 64 {
				// A lane's number has the bits of a, then those of b, then in.
				words := make([]uint64, 2*n+1)
				for lane := range 64 {
					for i := range words {
						words[i] |= uint64((from+lane)>>i&1) << lane
					}
				}
				wantSum(t, g, words, a, b, in, sum, out)
				wantSum(t, g, words, a, b, in, ahead, aheadOut)
			}
		}
	}
}

// P12.2: both ways, of each length, with numbers of all kinds, those with long carries among them.
func TestSumOfEachLength(t *testing.T) {
	d := dice(5)
	for _, o := range theOptions() {
		for n := 1; n <= 64; n++ {
			g, a, b, in := of(t, o, n)
			sum, out := added(t, g, adder.Ripple, a, b, in)
			ahead, aheadOut := added(t, g, adder.Ahead, a, b, in)
			for turn := range 6 {
				words := d.words(2*n + 1)
				for i := range n {
					// In most lanes b is a's opposite, so a carry goes on and on.
					if turn > 0 {
						words[n+i] = ^words[i] ^ d.word()&d.word()&d.word()&d.word()&d.word()
					}
				}
				wantSum(t, g, words, a, b, in, sum, out)
				wantSum(t, g, words, a, b, in, ahead, aheadOut)
			}
		}
	}
}

// P12.2: of the least and the greatest numbers of 64 bits, and of one bit alone in each place.
func TestSumEdges(t *testing.T) {
	const most = math.MaxUint64
	for _, how := range ways() {
		g, a, b, in := of(t, both, 64)
		sum, out := added(t, g, how, a, b, in)
		edges := [][3]uint64{{0, 0, 0}, {0, 0, 1}, {most, 0, 0}, {most, 0, 1}, {0, most, 1}, {most, 1, 0}, {1, most, 1}, {most, most, 0}, {most, most, 1}, {1 << 63, 1 << 63, 0}, {1<<63 - 1, 1, 0}, {1<<63 - 1, 0, 1}, {most / 3, most / 3 * 2, 1}}
		for i := range 64 {
			edges = append(edges, [3]uint64{most << i, 1 << i, 0}, [3]uint64{1<<i - 1, 0, 1}, [3]uint64{1 << i, 1 << i, 1})
		}
		for lane := 0; lane < len(edges); lane += 64 {
			words := make([]uint64, 129)
			for k, x := range edges[lane:min(lane+64, len(edges))] {
				for i := range 64 {
					words[i] |= x[0] >> i & 1 << k
					words[64+i] |= x[1] >> i & 1 << k
				}
				words[128] |= x[2] << k
			}
			wantSum(t, g, words, a, b, in, sum, out)
		}
	}
}

// P12.2: of any literals of a graph; what was there before keeps its words.
func TestSumOfAnyLiterals(t *testing.T) {
	for _, o := range theOptions() {
		for seed := range uint64(40) {
			d := dice(seed + 1000)
			g := grown(t, o, &d)
			was := g.Copy()
			n := 1 + d.roll(64)
			l := d.lits(2*n+1, g.Nodes())
			sum, out := added(t, g, adder.Ripple, l[:n], l[n:2*n], l[2*n])
			ahead, aheadOut := added(t, g, adder.Ahead, l[:n], l[n:2*n], l[2*n])
			in := d.words(len(g.Inputs()))
			wantSum(t, g, in, l[:n], l[n:2*n], l[2*n], sum, out)
			wantSum(t, g, in, l[:n], l[n:2*n], l[2*n], ahead, aheadOut)
			words, _ := g.Eval(in)
			if before, e := was.Eval(in); e != api.OK || !slices.Equal(before, words[:len(before)]) {
				t.Fatal(o, seed, e)
			}
		}
	}
}

// P12.2: of constants on a graph that folds, no gate, but the sum as constants.
func TestConstants(t *testing.T) {
	d := dice(9)
	for _, o := range []aig.Options{{Fold: true}, both} {
		for _, how := range ways() {
			g := aig.New(o)
			for n := 1; n <= 64; n++ {
				x, y, c := d.word()>>(64-n), d.word()>>(64-n), uint64(d.roll(2))
				low, high := bits.Add64(x, y, c)
				if n < 64 {
					low, high = low&(1<<n-1), low>>n
				}
				sum, out := added(t, g, how, lit.Const(x, n), lit.Const(y, n), lit.Lit(c))
				if s, is := lit.Number(sum); s != low || !is || out != lit.Lit(high) || g.Nodes() != 1 {
					t.Errorf("%v, %d: %d and %d and %d, of %d bits: %v, %d", o, how, x, y, c, n, sum, out)
				}
			}
		}
	}
}

// rounds is the least r for which 2 to r is not below n.
func rounds(n int) int {
	r := 0
	for 1<<r < n {
		r++
	}
	return r
}

// P12.3: how deep the literals are, and all that is made for them; without options, of two bits or more, some that are told are bit by bit just as deep as they may be, and looking ahead nearly so.
func TestDepth(t *testing.T) {
	for _, o := range theOptions() {
		for n := 1; n <= 64; n++ {
			for how, most := range map[int]int{adder.Ripple: 2*n + 2, adder.Ahead: 5 + 2*rounds(n)} {
				g, a, b, in := of(t, o, n)
				sum, out := added(t, g, how, a, b, in)
				least := most
				if how == adder.Ahead {
					least = most - 2
				}
				depth, e := cone.Depth(g, append(sum, out)...)
				if e != api.OK || depth > most || o == plain && n > 1 && depth < least {
					t.Errorf("%v, %d, %d bits: %d deep, not %d, error %d", o, how, n, depth, most, e)
				}
				all := make(row, g.Nodes())
				for node := range all {
					all[node] = lit.Lit(2 * node)
				}
				if depth, e := cone.Depth(g, all...); e != api.OK || depth > most {
					t.Errorf("%v, %d, %d bits: all is %d deep, not %d, error %d", o, how, n, depth, most, e)
				}
			}
		}
	}
}

// P12.4: how many gates there are: without options just as many, whatever the literals are; else not more.
func TestHowManyGates(t *testing.T) {
	d := dice(3)
	for _, o := range theOptions() {
		for n := 1; n <= 64; n++ {
			all := 9 * n
			for k := 1; k < n; k *= 2 {
				all += 3 * (n - k)
			}
			for how, want := range map[int]int{adder.Ripple: 9 * n, adder.Ahead: all} {
				g, a, b, in := of(t, o, n)
				for range 3 {
					was := g.Gates()
					added(t, g, how, a, b, in)
					if made := g.Gates() - was; o == plain && made != want || made > want {
						t.Errorf("%v, %d, %d bits: %d gates, not %d", o, how, n, made, want)
					}
					a, b, in = d.lits(n, g.Nodes()), lit.Const(d.word(), n), lit.Lit(d.roll(2))
				}
			}
		}
	}
}

// P12.4: on a graph that hashes the same sum again makes nothing, and is the same.
func TestAgain(t *testing.T) {
	for _, o := range []aig.Options{{Hash: true}, both} {
		for _, how := range ways() {
			g, a, b, in := of(t, o, 20)
			sum, out := added(t, g, how, a, b, in)
			was := g.Copy()
			again, outAgain := added(t, g, how, a, b, in)
			if !slices.Equal(sum, again) || out != outAgain || !aig.Same(g, was) {
				t.Error(o, how, sum, again, out, outAgain)
			}
		}
	}
}

// refused fails, if Add does not tell just that error, or if it makes something, but for ErrFull.
func refused(t *testing.T, want api.Errno, g *aig.Graph, how int, a, b row, in lit.Lit) {
	t.Helper()
	nodes := g.Nodes()
	sum, out, e := adder.Add(g, how, a, b, in)
	if e != want || len(sum) != 0 || out != 0 {
		t.Errorf("Add(%v, %d, %v, %v, %d): %v, %d, error %d, not %d", g.Options(), how, a, b, in, sum, out, e, want)
	}
	if e != api.ErrFull && g.Nodes() != nodes {
		t.Errorf("Add(%v, %d, %v, %v, %d) has made something", g.Options(), how, a, b, in)
	}
}

// P12.1: a graph that New did not make, and none; ErrNil comes ahead of ErrArg.
func TestNone(t *testing.T) {
	for _, g := range []*aig.Graph{nil, {}, new(aig.Graph)} {
		for _, how := range []int{adder.Ripple, adder.Ahead, 0, 3} {
			for _, l := range []row{nil, {}, {0}, {0, 1}, {2}, {1000}, make(row, 64), make(row, 65)} {
				refused(t, api.ErrNil, g, how, l, l, 0)
				refused(t, api.ErrNil, g, how, l, row{0}, 2)
			}
		}
	}
}

// P12.1: what is no way to add.
func TestWrongWay(t *testing.T) {
	for _, o := range theOptions() {
		g, a, b, in := of(t, o, 3)
		for _, how := range []int{0, 3, 4, -1, -2, 257, 258, math.MaxInt, math.MinInt, 1 << 32, 1<<32 + 1} {
			refused(t, api.ErrArg, g, how, a, b, in)
			refused(t, api.ErrArg, g, how, lit.Const(1, 2), lit.Const(1, 2), 0)
		}
	}
}

// P12.1: rows of all pairs of lengths: just those of one length, 1 to 64, are added.
func TestLengths(t *testing.T) {
	lengths := []int{0, 1, 2, 3, 31, 32, 33, 63, 64, 65, 66, 127, 128, 129, 256, 1000}
	for _, o := range theOptions() {
		for _, how := range ways() {
			for _, n := range lengths {
				for _, m := range lengths {
					g := aig.New(o)
					inputs(t, g, 1)
					a, b := slices.Repeat(row{2}, n), slices.Repeat(row{3}, m)
					if n == m && n >= 1 && n <= 64 {
						asTold(t, g, how, a, b, 2)
					} else {
						refused(t, api.ErrArg, g, how, a, b, 2)
					}
				}
			}
			g := aig.New(o)
			refused(t, api.ErrArg, g, how, nil, nil, 0)
			refused(t, api.ErrArg, g, how, row{}, nil, 0)
			refused(t, api.ErrArg, g, how, nil, row{0}, 0)
			refused(t, api.ErrArg, g, how, row{0}, nil, 0)
		}
	}
}

// P12.1: a literal whose node is not there, in each place; nothing is made.
func TestNotThere(t *testing.T) {
	for _, o := range theOptions() {
		for _, how := range ways() {
			for _, n := range []int{1, 2, 5, 64} {
				g, a, b, in := of(t, o, n)
				next := lit.Lit(2 * g.Nodes())
				for _, far := range []lit.Lit{next, next + 1, next + 2, 1000, 2*lit.MaxNode + 1, 2*lit.MaxNode + 2, 1 << 31, math.MaxUint32} {
					for i := range n {
						x := slices.Clone(a)
						x[i] = far
						refused(t, api.ErrArg, g, how, x, b, in)
						refused(t, api.ErrArg, g, how, b, x, in)
						refused(t, api.ErrArg, g, how, x, x, in)
					}
					refused(t, api.ErrArg, g, how, a, b, far)
				}
				// The last node is there.
				asTold(t, g, how, slices.Repeat(row{next - 1}, n), slices.Repeat(row{next - 2}, n), next-1)
			}
		}
	}
}

// fill makes gates of constants, until just left more may be made.
func fill(t *testing.T, g *aig.Graph, left int) {
	t.Helper()
	for g.Gates() < api.MaxGates-left {
		must(t)(g.Raw(0, 0))
	}
}

// filled is a graph of inputs, as of makes it, with so many gates that just left more may be made.
func filled(t *testing.T, o aig.Options, n, left int) (g *aig.Graph, a, b row, in lit.Lit) {
	t.Helper()
	g, a, b, in = of(t, o, n)
	fill(t, g, left)
	return g, a, b, in
}

// P12.1: what was made ahead of ErrFull stays: the first gates, as many as there is room for; and no more is refused than need be.
func TestFull(t *testing.T) {
	for _, o := range []aig.Options{plain, both} {
		for _, how := range ways() {
			whole, a, b, in := of(t, o, 3)
			nodes := whole.Nodes()
			sum, out := added(t, whole, how, a, b, in)
			most, _, _, _ := filled(t, o, 3, whole.Gates()+1)
			for left := range whole.Gates() + 2 {
				g := most.Copy()
				fill(t, g, left)
				moved := lit.Lit(2 * (g.Nodes() - nodes))
				move := func(l lit.Lit) lit.Lit {
					if l.Node() < nodes {
						return l
					}
					return l + moved
				}
				if left < whole.Gates() {
					refused(t, api.ErrFull, g, how, a, b, in)
				} else if s, got := added(t, g, how, a, b, in); s[0] != move(sum[0]) || s[2] != move(sum[2]) || got != move(out) {
					t.Errorf("%v, %d, room for %d: %v, %d", o, how, left, s, got)
				}
				if g.Gates() != min(api.MaxGates, api.MaxGates-left+whole.Gates()) {
					t.Errorf("%v, %d, room for %d: %d gates", o, how, left, g.Gates())
				}
				for k := range min(left, whole.Gates()) {
					x, y, _ := whole.Gate(nodes + k)
					if l, m, is := g.Gate(nodes + k + int(moved)/2); l != move(x) || m != move(y) || !is {
						t.Fatalf("%v, %d, room for %d: gate %d: %d, %d, %v", o, how, left, k, l, m, is)
					}
				}
			}
		}
	}
}

// P12.1: a full graph: ErrArg comes ahead of ErrFull; what needs no new gate is still told.
func TestFullEdges(t *testing.T) {
	for _, how := range ways() {
		g, a, b, in := filled(t, both, 2, 0)
		refused(t, api.ErrFull, g, how, a, b, in)
		refused(t, api.ErrArg, g, 0, a, b, in)
		refused(t, api.ErrArg, g, how, a, b[:1], in)
		refused(t, api.ErrArg, g, how, nil, nil, in)
		refused(t, api.ErrArg, g, how, a, b, lit.Lit(2*g.Nodes()))
		if sum, out := added(t, g, how, lit.Const(1, 2), lit.Const(3, 2), 1); !slices.Equal(sum, row{1, 0}) || out != 1 {
			t.Error(how, sum, out)
		}
		if sum, out := added(t, g, how, a[:1], row{0}, 0); !slices.Equal(sum, a[:1]) || out != 0 {
			t.Error(how, sum, out)
		}
		if sum, out := added(t, g, how, a, lit.Turn(a...), 1); !slices.Equal(sum, row{0, 0}) || out != 1 {
			t.Error(how, sum, out)
		}
		if g.Gates() != api.MaxGates {
			t.Error(how, g.Gates())
		}
	}
	// Looking ahead wants a gate that tells whether both bits pass a carry on, also where none can come.
	g, a, _, _ := filled(t, both, 2, 0)
	if sum, out := added(t, g, adder.Ripple, a, lit.Const(0, 2), 0); !slices.Equal(sum, a) || out != 0 {
		t.Error(sum, out)
	}
	refused(t, api.ErrFull, g, adder.Ahead, a, lit.Const(0, 2), 0)
}

// P12.1: on a full graph that hashes, gates that are there are found, if all are.
func TestFullButThere(t *testing.T) {
	for _, how := range ways() {
		g, a, b, in := of(t, both, 9)
		sum, out := added(t, g, how, a, b, in)
		fill(t, g, 0)
		if again, got := added(t, g, how, a, b, in); !slices.Equal(sum, again) || got != out {
			t.Error(how, again, got)
		}
		refused(t, api.ErrFull, g, how, a, b, in.Not())
	}
}

// R3: a and b may be one row, and pieces of one; what is behind them stays.
func TestOneRow(t *testing.T) {
	for _, o := range theOptions() {
		for _, how := range ways() {
			g, a, _, in := of(t, o, 12)
			asTold(t, g, how, a, a, in)
			asTold(t, g, how, a, a, a[0])
			was := slices.Clone(a)
			asTold(t, g, how, a[:5], a[3:8], a[4])
			asTold(t, g, how, a[:0:12][:1], a[1:2], a[2])
			if !slices.Equal(a, was) {
				t.Error(o, how, a, was)
			}
		}
	}
}

// R3: a sum is new memory, and nothing that is handed in is kept.
func TestApart(t *testing.T) {
	for _, o := range theOptions() {
		for _, how := range ways() {
			g, a, b, in := of(t, o, 8)
			wasA, wasB := slices.Clone(a), slices.Clone(b)
			sum, _ := added(t, g, how, a, b, in)
			wasSum, was := slices.Clone(sum), g.Copy()
			same, _ := added(t, g, how, a, lit.Const(0, 8), 0)
			other, _ := added(t, g, how, a, b, in)
			wasOther, all := slices.Clone(other), g.Copy()
			for _, l := range []row{same, sum} {
				clear(l)
				_ = append(l[:0], slices.Repeat(row{3}, cap(l))...)
			}
			if !slices.Equal(a, wasA) || !slices.Equal(b, wasB) || !slices.Equal(other, wasOther) || !aig.Same(g, all) {
				t.Error(o, how, a, b, other)
			}
			clear(a)
			clear(b)
			if !aig.Same(g, all) || !slices.Equal(other, wasOther) {
				t.Error(o, how, other)
			}
			if h := was.Copy(); o.Hash {
				if again, _ := added(t, h, how, wasA, wasB, in); !slices.Equal(again, wasSum) || !aig.Same(h, was) {
					t.Error(o, how, again, wasSum)
				}
			}
		}
	}
}

// R7: the same call on the same graph tells the same.
func TestSameAgain(t *testing.T) {
	for seed := range uint64(20) {
		d := dice(seed)
		g := grown(t, theOptions()[d.roll(4)], &d)
		h := g.Copy()
		l := d.lits(61, g.Nodes())
		for _, how := range ways() {
			sum, out := added(t, g, how, l[:30], l[30:60], l[60])
			again, outAgain := added(t, h, how, l[:30], l[30:60], l[60])
			if !slices.Equal(sum, again) || out != outAgain || !aig.Same(g, h) {
				t.Error(seed, how, sum, again)
			}
		}
	}
}
