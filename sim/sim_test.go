package sim_test

import (
	"math"
	"slices"
	"strconv"
	"testing"

	"orrery/aig"
	"orrery/api"
	"orrery/lit"
	"orrery/net"
	"orrery/sim"
)

// ones is a word of all ones.
const ones uint64 = math.MaxUint64

// both are the settings that make nothing twice.
var both = aig.Options{Fold: true, Hash: true}

// theOptions are all four settings.
func theOptions() []aig.Options {
	return []aig.Options{{}, {Fold: true}, {Hash: true}, both}
}

// dice tells the same numbers in each run.
type dice uint64

// roll is a number below n.
func (d *dice) roll(n int) int {
	*d = *d*6364136223846793005 + 1442695040888963407
	return int(uint64(*d) >> 33 % uint64(n))
}

// word is any word; some are all ones, or all zeros, or of one lane.
func (d *dice) word() uint64 {
	switch d.roll(8) {
	case 0:
		return 0
	case 1:
		return ones
	case 2:
		return 1 << d.roll(64)
	}
	return uint64(d.roll(1<<31))<<40 ^ uint64(d.roll(1<<31))<<20 ^ uint64(d.roll(1<<31))
}

// lit is a literal of a graph of so many nodes.
func (d *dice) lit(nodes int) lit.Lit { return lit.Lit(d.roll(2 * nodes)) }

// lits is so many of them.
func (d *dice) lits(n, nodes int) []lit.Lit {
	l := make([]lit.Lit, n)
	for i := range l {
		l[i] = d.lit(nodes)
	}
	return l
}

// in is words for all buses of n that come in.
func (d *dice) in(n *net.Net) [][]uint64 {
	in := make([][]uint64, len(n.In))
	for i, b := range n.In {
		for range b.Lits {
			in[i] = append(in[i], d.word())
		}
	}
	return in
}

// ins is such words for a row of cycles.
func (d *dice) ins(n *net.Net, cycles int) [][][]uint64 {
	ins := make([][][]uint64, cycles)
	for i := range ins {
		ins[i] = d.in(n)
	}
	return ins
}

// gate makes one more gate, or a few.
func (d *dice) gate(t *testing.T, n *net.Net) {
	t.Helper()
	l := d.lits(3, n.Nodes())
	var e api.Errno
	switch d.roll(5) {
	case 0:
		_, e = n.And(l...)
	case 1:
		_, e = n.Or(l[:2]...)
	case 2:
		_, e = n.Xor(l[:2]...)
	case 3:
		_, e = n.Mux(l[0], l[1], l[2])
	case 4:
		_, e = n.Raw(l[0], l[1])
	}
	must(t, e)
}

// net is a netlist in which buses, registers and gates come in any order.
func (d *dice) net(t *testing.T) *net.Net {
	t.Helper()
	n := made(t, theOptions()[d.roll(4)])
	for range d.roll(12) {
		switch d.roll(4) {
		case 0:
			_, e := n.AddIn("i"+strconv.Itoa(len(n.In)), 1+d.roll(4))
			must(t, e)
		case 1:
			_, e := n.AddReg(d.roll(2) == 0)
			must(t, e)
		default:
			d.gate(t, n)
		}
	}
	for _, r := range n.Regs {
		must(t, n.SetReg(r.Q, d.lit(n.Nodes()), d.lit(n.Nodes())))
	}
	for i := range d.roll(4) {
		must(t, n.AddOut("o"+strconv.Itoa(i), d.lits(1+d.roll(4), n.Nodes())...))
	}
	d.mix(n)
	must(t, n.Check())
	return n
}

// mix changes the order of buses, of their literals, and of registers, and what stands for an input.
func (d *dice) mix(n *net.Net) {
	for i := range n.In {
		k := d.roll(i + 1)
		n.In[i], n.In[k] = n.In[k], n.In[i]
		l := n.In[i].Lits
		k = d.roll(len(l))
		l[0], l[k] = l[k], l[0]
		if len(n.Regs) > 0 && d.roll(3) == 0 {
			r := &n.Regs[d.roll(len(n.Regs))]
			l[0], r.Q = r.Q, l[0]
		}
	}
	for i := range n.Regs {
		k := d.roll(i + 1)
		n.Regs[i], n.Regs[k] = n.Regs[k], n.Regs[i]
	}
}

// made is a new netlist.
func made(t *testing.T, o aig.Options) *net.Net {
	t.Helper()
	n, e := net.New("n", o)
	must(t, e)
	return n
}

// begun is a simulation of n.
func begun(t *testing.T, n *net.Net) *sim.Sim {
	t.Helper()
	s, e := sim.New(n)
	if e != api.OK || s == nil {
		t.Fatalf("New: %v, error %d", s, e)
	}
	return s
}

// must fails, if there is an error.
func must(t *testing.T, e api.Errno) {
	t.Helper()
	if e != api.OK {
		t.Fatalf("error %d", e)
	}
}

// same tells whether both are one, none and empty being alike.
func same(a, b [][]uint64) bool { return slices.EqualFunc(a, b, slices.Equal[[]uint64]) }

// every is all literals of a graph of so many nodes.
func every(nodes int) []lit.Lit {
	l := make([]lit.Lit, 2*nodes)
	for i := range l {
		l[i] = lit.Lit(i)
	}
	return l
}

// copied is a copy of words that shares nothing with them.
func copied(words [][]uint64) [][]uint64 {
	so := make([][]uint64, len(words))
	for i, row := range words {
		so[i] = slices.Clone(row)
	}
	return so
}

// spoil writes over all that words may reach.
func spoil(words ...[]uint64) {
	for _, row := range words {
		row = row[:cap(row)]
		for i := range row {
			row[i] = ^row[i] ^ 0x5a
		}
	}
}

// plain is a simulation of n as the document tells it: each lane by itself, each literal gone through to the inputs.
type plain struct {
	n      *net.Net
	has    []uint64
	all    []uint64
	cycles int
}

// plainly is that of n.
func plainly(n *net.Net) *plain {
	p := &plain{n: n}
	for _, r := range n.Regs {
		w := uint64(0)
		if r.Init {
			w = ones
		}
		p.has = append(p.has, w)
	}
	return p
}

// come is what the node of an input has in the cycle in which in comes in.
func (p *plain) come(in [][]uint64, node int) uint64 {
	l := lit.Lit(2 * node)
	for i, b := range p.n.In {
		if k := slices.Index(b.Lits, l); k >= 0 {
			return in[i][k]
		}
	}
	return p.has[slices.IndexFunc(p.n.Regs, func(r net.Reg) bool { return r.Q == l })]
}

// step is a cycle.
func (p *plain) step(in [][]uint64) [][]uint64 {
	p.all = make([]uint64, p.n.Nodes())
	inputs := p.n.Inputs()
	for lane := range 64 {
		at := func(l lit.Lit) bool { return p.all[l/2]>>lane&1 == 1 != (l%2 == 1) }
		for node := 1; node < p.n.Nodes(); node++ {
			is := false
			if a, b, gate := p.n.Gate(node); gate {
				is = at(a) && at(b)
			} else if slices.Contains(inputs, node) {
				is = p.come(in, node)>>lane&1 == 1
			}
			if is {
				p.all[node] |= 1 << lane
			}
		}
	}
	next := slices.Clone(p.has)
	for i, r := range p.n.Regs {
		for lane := range 64 {
			if p.word(r.En)>>lane&1 == 1 {
				next[i] = next[i]&^(1<<lane) | p.word(r.D)>>lane&1<<lane
			}
		}
	}
	p.has = next
	p.cycles++
	out := make([][]uint64, len(p.n.Out))
	for i, b := range p.n.Out {
		out[i] = p.words(b.Lits...)
	}
	return out
}

// word is a literal's word of the last cycle.
func (p *plain) word(l lit.Lit) uint64 { return p.words(l)[0] }

// words is the words of l of the last cycle.
func (p *plain) words(l ...lit.Lit) []uint64 {
	words := make([]uint64, len(l))
	for i, one := range l {
		words[i] = p.all[one/2]
		if one%2 == 1 {
			words[i] ^= ones
		}
	}
	return words
}

// wantStep holds a cycle's answer, with what there is behind it.
func wantStep(t *testing.T, s *sim.Sim, p *plain, in [][]uint64) {
	t.Helper()
	want := p.step(in)
	if out, e := s.Step(in); e != api.OK || !same(out, want) {
		t.Fatalf("cycle %d: Step(%x) = %x, error %d, want %x", p.cycles, in, out, e, want)
	}
	wantAt(t, s, p)
}

// wantAt holds all that is told of s between cycles.
func wantAt(t *testing.T, s *sim.Sim, p *plain) {
	t.Helper()
	if regs := s.Regs(); !slices.Equal(regs, p.has) {
		t.Fatalf("behind %d: Regs = %x, want %x", p.cycles, regs, p.has)
	}
	if s.Cycles() != p.cycles {
		t.Fatalf("behind %d: Cycles = %d", p.cycles, s.Cycles())
	}
	l := every(p.n.Nodes())
	words, e := s.Words(l...)
	if p.cycles == 0 {
		if e != api.ErrNone || len(words) != 0 {
			t.Fatalf("Words at first: %x, error %d", words, e)
		}
		return
	}
	if want := p.words(l...); e != api.OK || !slices.Equal(words, want) {
		t.Fatalf("behind %d: Words = %x, error %d, want %x", p.cycles, words, e, want)
	}
}

// wantOuts holds the first bus's first words, cycle by cycle, when the first bus that comes in has these.
func wantOuts(t *testing.T, s *sim.Sim, up, want []uint64) {
	t.Helper()
	for i := range up {
		out, e := s.Step([][]uint64{{up[i]}})
		if e != api.OK || !same(out, [][]uint64{{want[i]}}) {
			t.Errorf("cycle %d: Step(%x) = %x, error %d, want %x", i, up[i], out, e, want[i])
		}
	}
}

// counter is the chapter's netlist: up is 2, the register 4.
func counter(t *testing.T, o aig.Options) *net.Net {
	t.Helper()
	n := made(t, o)
	_, e := n.AddIn("up", 1)
	must(t, e)
	q, e := n.AddReg(false)
	must(t, e)
	must(t, n.SetReg(q, q.Not(), 2))
	must(t, n.AddOut("out", q))
	return n
}

// small is a netlist with buses a (2 4), b (6), registers 8 and 10, gates 12 and 14, and buses x (12 13), y (1).
func small(t *testing.T) *net.Net {
	t.Helper()
	n := made(t, both)
	_, e := n.AddIn("a", 2)
	must(t, e)
	_, e = n.AddIn("b", 1)
	must(t, e)
	_, e = n.AddReg(true)
	must(t, e)
	_, e = n.AddReg(false)
	must(t, e)
	_, e = n.And(2, 8)
	must(t, e)
	_, e = n.And(12, 5)
	must(t, e)
	must(t, n.SetReg(8, 14, 6))
	must(t, n.SetReg(10, 9, 1))
	must(t, n.AddOut("x", 12, 13))
	must(t, n.AddOut("y", 1))
	return n
}

// unmade are simulations that New did not make, and none.
func unmade() []*sim.Sim { return []*sim.Sim{nil, {}, new(sim.Sim)} }

// The chapter's examples.
func TestExamples(t *testing.T) {
	for _, o := range theOptions() {
		n := counter(t, o)
		wantOuts(t, begun(t, n), []uint64{ones, ones, ones}, []uint64{0, ones, 0})
		wantOuts(t, begun(t, n), []uint64{1, 1, 1}, []uint64{0, 1, 0})
	}
}

// P8.1, P8.2: netlists without buses, without registers, without gates, and without anything.
func TestWithout(t *testing.T) {
	nothing := made(t, both)

	noGates := made(t, both)
	_, e := noGates.AddIn("a", 3)
	must(t, e)
	must(t, noGates.AddOut("x", 6, 3, 0, 1, 2, 2))

	noRegs := made(t, both)
	_, e = noRegs.AddIn("a", 2)
	must(t, e)
	_, e = noRegs.And(2, 5)
	must(t, e)
	must(t, noRegs.AddOut("x", 7, 6))

	noIn := made(t, both)
	_, e = noIn.AddReg(true)
	must(t, e)
	must(t, noIn.SetReg(2, 3, 1))
	must(t, noIn.AddOut("x", 2))

	noOut := made(t, both)
	_, e = noOut.AddIn("a", 1)
	must(t, e)
	_, e = noOut.AddReg(false)
	must(t, e)
	must(t, noOut.SetReg(4, 5, 2))

	noBuses := made(t, both)
	_, e = noBuses.AddReg(true)
	must(t, e)
	_, e = noBuses.AddReg(false)
	must(t, e)
	_, e = noBuses.And(3, 4)
	must(t, e)
	must(t, noBuses.SetReg(2, 7, 5))

	d := dice(3)
	for _, n := range []*net.Net{nothing, noGates, noRegs, noIn, noOut, noBuses} {
		s, p := begun(t, n), plainly(n)
		wantAt(t, s, p)
		for range 5 {
			wantStep(t, s, p, d.in(n))
		}
	}
	// None and empty are one.
	for _, in := range [][][]uint64{nil, {}} {
		s := begun(t, nothing)
		if out, e := s.Step(in); len(out) != 0 || e != api.OK || s.Cycles() != 1 || len(s.Regs()) != 0 {
			t.Errorf("Step of nothing: %x, error %d", out, e)
		}
		if _, e := s.Step([][]uint64{{}}); e != api.ErrArg {
			t.Errorf("Step of nothing with a bus of none: error %d", e)
		}
	}
}

// P8.1: registers begin with all ones or all zeros, in order.
func TestInit(t *testing.T) {
	for code := range 32 {
		n := made(t, both)
		var want []uint64
		for i := range 5 {
			_, e := n.AddReg(code>>i&1 == 1)
			must(t, e)
			want = append(want, -uint64(code>>i&1))
		}
		s := begun(t, n)
		if !slices.Equal(s.Regs(), want) || s.Cycles() != 0 {
			t.Errorf("Regs of %05b = %x", code, s.Regs())
		}
		// Such a register takes nothing: its En is False.
		for i := range 3 {
			if _, e := s.Step(nil); e != api.OK || !slices.Equal(s.Regs(), want) || s.Cycles() != i+1 {
				t.Errorf("Regs of %05b = %x, behind %d", code, s.Regs(), s.Cycles())
			}
		}
	}
	// The order is the registers', not the inputs'.
	n := made(t, both)
	for _, init := range []bool{true, false, false} {
		_, e := n.AddReg(init)
		must(t, e)
	}
	slices.Reverse(n.Regs)
	if s := begun(t, n); !slices.Equal(s.Regs(), []uint64{0, 0, ones}) {
		t.Errorf("Regs, turned round: %x", s.Regs())
	}
}

// P8.2, P8.4: one register of every D, En and Init beside an input and a gate of both, by all rows of four cycles in four lanes.
func TestOneRegister(t *testing.T) {
	for code := range 2 * 8 * 8 {
		n := made(t, both)
		_, e := n.AddIn("a", 1)
		must(t, e)
		q, e := n.AddReg(code&1 == 1)
		must(t, e)
		_, e = n.And(2, q.Not())
		must(t, e)
		must(t, n.SetReg(q, lit.Lit(code>>1&7), lit.Lit(code>>4&7)))
		must(t, n.AddOut("x", every(4)...))
		s, p := begun(t, n), plainly(n)
		for rows := range 1 << 4 {
			must(t, s.Reset())
			p = plainly(n)
			wantAt(t, s, p)
			for i := range 4 {
				wantStep(t, s, p, [][]uint64{{uint64(rows>>i&1) * 0xcafe0000000000ca}})
			}
		}
	}
}

// P8.2: an En that is 1 in some lanes alone: the others keep what they had.
func TestSomeLanes(t *testing.T) {
	n := made(t, both)
	_, e := n.AddIn("d", 1)
	must(t, e)
	_, e = n.AddIn("en", 1)
	must(t, e)
	q, e := n.AddReg(true)
	must(t, e)
	must(t, n.SetReg(q, 2, 4))
	must(t, n.AddOut("x", q))
	s := begun(t, n)
	for i, one := range []struct{ d, en, before, behind uint64 }{
		{0, 0, ones, ones},
		{0, 0xf0, ones, ones ^ 0xf0},
		{0x30, 0xff, ones ^ 0xf0, ones ^ 0xcf},
		{ones, 1 << 63, ones ^ 0xcf, ones ^ 0xcf},
		{0, 1 << 63, ones ^ 0xcf, ones>>1 ^ 0xcf},
		{0, ones, ones>>1 ^ 0xcf, 0},
		{ones, 1, 0, 1},
		{0, ones ^ 1, 1, 1},
		{0x123456789abcdef0, ones, 1, 0x123456789abcdef0},
	} {
		out, e := s.Step([][]uint64{{one.d}, {one.en}})
		if e != api.OK || !same(out, [][]uint64{{one.before}}) || !slices.Equal(s.Regs(), []uint64{one.behind}) {
			t.Errorf("cycle %d: %x, error %d, then %x", i, out, e, s.Regs())
		}
	}
}

// P8.2: registers that take each other do so all at once; one that takes itself stays.
func TestEachOther(t *testing.T) {
	n := made(t, both)
	_, e := n.AddIn("en", 1)
	must(t, e)
	for _, init := range []bool{true, false, true, false, true} {
		_, e := n.AddReg(init)
		must(t, e)
	}
	// 4 and 6 change about; 8 takes 10, that takes 8's opposite; 12 takes itself.
	must(t, n.SetReg(4, 6, 2))
	must(t, n.SetReg(6, 4, 2))
	must(t, n.SetReg(8, 10, lit.True))
	must(t, n.SetReg(10, 9, lit.True))
	must(t, n.SetReg(12, 12, lit.True))
	s := begun(t, n)
	for i, one := range []struct {
		en   uint64
		want []uint64
	}{
		{0, []uint64{ones, 0, 0, 0, ones}},
		{ones, []uint64{0, ones, 0, ones, ones}},
		{0xff, []uint64{0xff, ones ^ 0xff, ones, ones, ones}},
		{ones, []uint64{ones ^ 0xff, 0xff, ones, 0, ones}},
		{ones, []uint64{0xff, ones ^ 0xff, 0, 0, ones}},
	} {
		if _, e := s.Step([][]uint64{{one.en}}); e != api.OK || !slices.Equal(s.Regs(), one.want) {
			t.Errorf("cycle %d: Regs = %x, error %d, want %x", i, s.Regs(), e, one.want)
		}
	}
}

// P8.2: each kind of D, and a bus of all Qs, which tells what they had before the cycle.
func TestWhatIsTaken(t *testing.T) {
	n := made(t, both)
	_, e := n.AddIn("a", 1)
	must(t, e)
	for range 8 {
		_, e := n.AddReg(true)
		must(t, e)
	}
	// A constant, the other one, an input, it turned, a Q, it turned, itself, itself turned.
	takes := []lit.Lit{0, 1, 2, 3, 4, 5, 16, 19}
	var qs []lit.Lit
	for i, d := range takes {
		qs = append(qs, n.Regs[i].Q)
		must(t, n.SetReg(n.Regs[i].Q, d, lit.True))
	}
	must(t, n.AddOut("q", qs...))
	s := begun(t, n)
	had := []uint64{ones, ones, ones, ones, ones, ones, ones, ones}
	const a = 0x0123456789abcdef
	for i, want := range [][]uint64{
		{0, ones, a, ones ^ a, ones, 0, ones, 0},
		{0, ones, a << 1, ones ^ a<<1, 0, ones, ones, ones},
		{0, ones, a << 2, ones ^ a<<2, 0, ones, ones, 0},
	} {
		out, e := s.Step([][]uint64{{a << i}})
		if e != api.OK || !same(out, [][]uint64{had}) || !slices.Equal(s.Regs(), want) {
			t.Errorf("cycle %d: %x, error %d, then %x", i, out, e, s.Regs())
		}
		if words, e := s.Words(qs...); e != api.OK || !slices.Equal(words, had) {
			t.Errorf("cycle %d: Words of all Qs = %x, error %d", i, words, e)
		}
		had = want
	}
}

// P8.2: buses of 64 literals, in and out, and inputs that stand in the buses and registers in another order than in the graph.
func TestBuses(t *testing.T) {
	n := made(t, aig.Options{})
	l, e := n.AddIn("a", 64)
	must(t, e)
	k, e := n.AddIn("b", 2)
	must(t, e)
	q, e := n.AddReg(true)
	must(t, e)
	must(t, n.SetReg(q, 2, lit.True))
	must(t, n.AddOut("x", lit.Turn(l...)...))
	must(t, n.AddOut("y", k[1], q, k[0]))
	in := [][]uint64{make([]uint64, 64), {5, 6}}
	want := [][]uint64{make([]uint64, 64), {6, ones, 5}}
	for i := range 64 {
		in[0][i] = 1<<i ^ 0xff
		want[0][i] = ^in[0][i]
	}
	if out, e := begun(t, n).Step(in); e != api.OK || !same(out, want) {
		t.Errorf("%x, error %d", out, e)
	}
	n.In[0], n.In[1] = n.In[1], n.In[0]
	n.In[0].Lits[0], n.In[0].Lits[1] = n.In[0].Lits[1], n.In[0].Lits[0]
	n.In[1].Lits[7], n.Regs[0].Q = n.Regs[0].Q, n.In[1].Lits[7]
	n.Out = n.Out[1:]
	must(t, n.Check())
	// y's literals are now b's first one, a's eighth one and b's second one.
	if out, e := begun(t, n).Step([][]uint64{{5, 6}, in[0]}); e != api.OK || !same(out, [][]uint64{{5, in[0][7], 6}}) {
		t.Errorf("mixed: %x, error %d", out, e)
	}
}

// P8.1 to P8.4: many netlists, played beside what the document tells.
func TestAll(t *testing.T) {
	d := dice(1)
	for range 1500 {
		n := d.net(t)
		s, p := begun(t, n), plainly(n)
		wantAt(t, s, p)
		for range 6 {
			wantStep(t, s, p, d.in(n))
		}
	}
}

// P8.4: each gate's word is the and of its literals' words, what comes in has what was handed in, a Q what its register had.
func TestSolution(t *testing.T) {
	d := dice(2)
	for range 500 {
		n := d.net(t)
		s := begun(t, n)
		for range 4 {
			in, had := d.in(n), s.Regs()
			_, e := s.Step(in)
			must(t, e)
			at, e := s.Words(every(n.Nodes())...)
			must(t, e)
			for node := range n.Nodes() {
				if a, b, gate := n.Gate(node); gate && at[2*node] != at[a]&at[b] {
					t.Fatalf("gate %d of %d %d: %x, not %x & %x", node, a, b, at[2*node], at[a], at[b])
				}
				if at[2*node] != ^at[2*node+1] {
					t.Fatalf("node %d: %x, turned %x", node, at[2*node], at[2*node+1])
				}
			}
			for i, b := range n.In {
				for k, l := range b.Lits {
					if at[l] != in[i][k] {
						t.Fatalf("bus %s, literal %d: %x, not %x", b.Name, k, at[l], in[i][k])
					}
				}
			}
			for i, r := range n.Regs {
				if at[r.Q] != had[i] || s.Regs()[i] != at[r.D]&at[r.En]|had[i]&^at[r.En] {
					t.Fatalf("register %d: %x, had %x, takes %x when %x: %x", i, at[r.Q], had[i], at[r.D], at[r.En], s.Regs()[i])
				}
			}
		}
	}
}

// exchanged is words in which lane i has what lane to[i] had.
func exchanged(words []uint64, to []int) []uint64 {
	so := make([]uint64, len(words))
	for i, w := range words {
		for lane, from := range to {
			so[i] |= w >> from & 1 << lane
		}
	}
	return so
}

// P8.5: with lanes exchanged all words are exchanged alike.
func TestLanesExchanged(t *testing.T) {
	d := dice(4)
	for range 200 {
		n := d.net(t)
		to := make([]int, 64)
		for i := range to {
			k := d.roll(i + 1)
			to[i], to[k] = to[k], i
		}
		s, r := begun(t, n), begun(t, n)
		for range 4 {
			in := d.in(n)
			turned := make([][]uint64, len(in))
			for i, row := range in {
				turned[i] = exchanged(row, to)
			}
			a, e := s.Step(in)
			must(t, e)
			b, e := r.Step(turned)
			must(t, e)
			for i := range a {
				a[i] = exchanged(a[i], to)
			}
			u, e := s.Words(every(n.Nodes())...)
			must(t, e)
			w, e := r.Words(every(n.Nodes())...)
			must(t, e)
			if !same(a, b) || !slices.Equal(exchanged(u, to), w) || !slices.Equal(exchanged(s.Regs(), to), r.Regs()) {
				t.Fatalf("exchanged by %v: %x, not %x", to, b, a)
			}
		}
	}
}

// P8.5: what other lanes have a lane does not tell: lane 0 alone, lane 63 alone, and each one between.
func TestLanesApart(t *testing.T) {
	d := dice(5)
	for lane := range 64 {
		n := d.net(t)
		s, r := begun(t, n), begun(t, n)
		for range 6 {
			in, other := d.in(n), d.in(n)
			for i := range in {
				for k := range in[i] {
					other[i][k] = other[i][k]&^(1<<lane) | in[i][k]&(1<<lane)
				}
			}
			_, e := s.Step(in)
			must(t, e)
			_, e = r.Step(other)
			must(t, e)
			u, e := s.Words(every(n.Nodes())...)
			must(t, e)
			w, e := r.Words(every(n.Nodes())...)
			must(t, e)
			u, w = append(u, s.Regs()...), append(w, r.Regs()...)
			for i := range u {
				if (u[i]^w[i])>>lane&1 != 0 {
					t.Fatalf("lane %d: %x and %x", lane, u[i], w[i])
				}
			}
		}
	}
}

// P8.6: the same inputs tell the same: by a second simulation, after Reset, by a copy, and whatever other one is played between.
func TestSameAgain(t *testing.T) {
	d := dice(6)
	for range 300 {
		n := d.net(t)
		ins := d.ins(n, 5)
		var outs [][][]uint64
		first := begun(t, n)
		for _, in := range ins {
			out, e := first.Step(in)
			must(t, e)
			outs = append(outs, out)
		}
		second := begun(t, n)
		third := second.Copy()
		must(t, first.Reset())
		for i, in := range ins {
			for _, s := range []*sim.Sim{second, first, third} {
				if out, e := s.Step(in); e != api.OK || !same(out, outs[i]) {
					t.Fatalf("cycle %d: %x, error %d, want %x", i, out, e, outs[i])
				}
			}
		}
	}
}

// P8.1: after Reset all is as at first: registers, count, Words; also ahead of the first cycle, and twice.
func TestReset(t *testing.T) {
	d := dice(8)
	for range 200 {
		n := d.net(t)
		s := begun(t, n)
		for _, cycles := range []int{0, 1, 4, 0, 2} {
			p := plainly(n)
			wantAt(t, s, p)
			for range cycles {
				wantStep(t, s, p, d.in(n))
			}
			if e := s.Reset(); e != api.OK {
				t.Fatalf("Reset: error %d", e)
			}
			wantAt(t, s, plainly(n))
		}
	}
}

// P8.1: a copy goes on by itself, from where it was made, and the first one beside it; Reset of one is not Reset of the other.
func TestCopy(t *testing.T) {
	d := dice(9)
	for i := range 200 {
		n := d.net(t)
		s, p := begun(t, n), plainly(n)
		for range i % 4 {
			wantStep(t, s, p, d.in(n))
		}
		c, q := s.Copy(), *p
		if c == nil || c == s {
			t.Fatalf("Copy = %p of %p", c, s)
		}
		wantAt(t, c, &q)
		for range 3 {
			wantStep(t, c, &q, d.in(n))
			wantAt(t, s, p)
			wantStep(t, s, p, d.in(n))
			wantAt(t, c, &q)
		}
		must(t, c.Reset())
		wantAt(t, c, plainly(n))
		wantStep(t, s, p, d.in(n))
		must(t, s.Reset())
		cc, r := c.Copy(), plainly(n)
		wantStep(t, cc, r, d.in(n))
		wantAt(t, c, plainly(n))
		wantAt(t, s, plainly(n))
	}
}

// P8.3: Words ahead of the first cycle, behind it, and after Reset; of none, of turned literals, of constants.
func TestWords(t *testing.T) {
	n := small(t)
	s := begun(t, n)
	none := func(when string) {
		t.Helper()
		for _, l := range [][]lit.Lit{nil, {}, {0}, {1}, {2, 15}} {
			if w, e := s.Words(l...); len(w) != 0 || e != api.ErrNone {
				t.Errorf("Words(%v) %s = %x, error %d", l, when, w, e)
			}
		}
	}
	none("at first")
	_, e := s.Step([][]uint64{{0xf0, 0x3c}, {0xff}})
	must(t, e)
	for _, one := range []struct {
		l    []lit.Lit
		want []uint64
	}{
		{nil, nil},
		{[]lit.Lit{}, nil},
		{[]lit.Lit{0, 1}, []uint64{0, ones}},
		{[]lit.Lit{2, 3, 4, 5, 6, 7}, []uint64{0xf0, ^uint64(0xf0), 0x3c, ^uint64(0x3c), 0xff, ^uint64(0xff)}},
		{[]lit.Lit{8, 9, 10, 11}, []uint64{ones, 0, 0, ones}},
		{[]lit.Lit{15, 12, 14, 13}, []uint64{^uint64(0xc0), 0xf0, 0xc0, ^uint64(0xf0)}},
		{[]lit.Lit{14, 14, 14}, []uint64{0xc0, 0xc0, 0xc0}},
	} {
		for range 2 {
			if w, e := s.Words(one.l...); e != api.OK || !slices.Equal(w, one.want) {
				t.Errorf("Words(%v) = %x, error %d, want %x", one.l, w, e, one.want)
			}
		}
	}
	must(t, s.Reset())
	none("after Reset")
	if w, e := s.Copy().Words(); len(w) != 0 || e != api.ErrNone {
		t.Errorf("Words of a copy: %x, error %d", w, e)
	}
}

// P8.3: literals whose nodes are not there, behind a cycle, and, ahead of ErrNone, before the first one.
func TestWordsRefused(t *testing.T) {
	n := small(t)
	s := begun(t, n)
	for range 2 {
		for _, l := range [][]lit.Lit{{16}, {17}, {2, 16}, {16, 2}, {2, 17, 4}, {math.MaxUint32}, {math.MaxUint32 - 1}, {2 * lit.MaxNode}, {1 << 31}} {
			if w, e := s.Words(l...); len(w) != 0 || e != api.ErrArg {
				t.Errorf("Words(%v) behind %d = %x, error %d", l, s.Cycles(), w, e)
			}
		}
		_, e := s.Step([][]uint64{{1, 2}, {3}})
		must(t, e)
	}
	empty := begun(t, made(t, both))
	if w, e := empty.Words(2); len(w) != 0 || e != api.ErrArg {
		t.Errorf("Words(2) of nothing = %x, error %d", w, e)
	}
}

// P8.2: in with too few buses, or too many, or with too few or too many words of one; then nothing has changed.
func TestStepRefused(t *testing.T) {
	n := small(t)
	s, p := begun(t, n), plainly(n)
	for range 3 {
		for _, in := range [][][]uint64{
			nil,
			{},
			{{1, 2}},
			{{1}, {2}},
			{{1, 2, 3}},
			{{3}},
			{{1, 2}, {3}, {}},
			{{1, 2}, {3}, {4}},
			{{1, 2}, {3}, nil},
			{nil, {1, 2}, {3}},
			{{1}, {3}},
			{{1, 2, 3}, {3}},
			{nil, {3}},
			{{1, 2}, nil},
			{{1, 2}, {}},
			{{1, 2}, {3, 4}},
			{{3}, {1, 2}},
			{{1}, {2, 3}},
			{{1, 2, 3}, {}},
		} {
			if out, e := s.Step(in); len(out) != 0 || e != api.ErrArg {
				t.Errorf("Step(%v) = %x, error %d", in, out, e)
			}
			wantAt(t, s, p)
		}
		wantStep(t, s, p, [][]uint64{{0xf0, 0x3c}, {0xffff}})
	}
}

// P8.1 to P8.3: simulations that New did not make, and none: ErrNil comes ahead of all other errors.
func TestUnmade(t *testing.T) {
	for i, s := range unmade() {
		for _, in := range [][][]uint64{nil, {}, {{1}}, {nil, {1, 2}}} {
			if out, e := s.Step(in); len(out) != 0 || e != api.ErrNil {
				t.Errorf("unmade %d: Step(%v) = %x, error %d", i, in, out, e)
			}
		}
		for _, l := range [][]lit.Lit{nil, {0}, {1}, {2}, {math.MaxUint32}} {
			if w, e := s.Words(l...); len(w) != 0 || e != api.ErrNil {
				t.Errorf("unmade %d: Words(%v) = %x, error %d", i, l, w, e)
			}
		}
		if len(s.Regs()) != 0 || s.Cycles() != 0 || s.Reset() != api.ErrNil || s.Copy() != nil {
			t.Errorf("unmade %d: %x, %d, %d, %v", i, s.Regs(), s.Cycles(), s.Reset(), s.Copy())
		}
	}
}

// P8.1: netlists that net.Check refuses, with its error.
func TestNewRefused(t *testing.T) {
	for i, n := range []*net.Net{nil, {}, {Name: "n"}, {Graph: &aig.Graph{}, Name: "n"}} {
		if s, e := sim.New(n); s != nil || e != api.ErrNil {
			t.Errorf("unmade %d: %v, error %d", i, s, e)
		}
	}
	for what, spoil := range map[string]func(n *net.Net){
		"no name":        func(n *net.Net) { n.Name = "" },
		"a bus of none":  func(n *net.Net) { n.In = append(n.In, net.Bus{Name: "c"}) },
		"out of none":    func(n *net.Net) { n.Out[0].Lits = nil },
		"a name twice":   func(n *net.Net) { n.Out[1].Name = "x" },
		"an input twice": func(n *net.Net) { n.In[0].Lits[0] = 4 },
		"a gate in":      func(n *net.Net) { n.In[0].Lits[0] = 12 },
		"a Q turned":     func(n *net.Net) { n.Regs[0].Q = 9 },
		"a Q in a bus":   func(n *net.Net) { n.Regs[0].Q = 2 },
		"no such D":      func(n *net.Net) { n.Regs[1].D = 16 },
		"no such En":     func(n *net.Net) { n.Regs[1].En = math.MaxUint32 },
		"out of no node": func(n *net.Net) { n.Out[0].Lits[1] = 17 },
		"another graph":  func(n *net.Net) { n.Graph = aig.New(both) },
	} {
		n := small(t)
		spoil(n)
		before := n.Copy()
		if s, e := sim.New(n); s != nil || e != api.ErrArg || !net.Same(n, before) {
			t.Errorf("%s: %v, error %d", what, s, e)
		}
	}
	for what, spoil := range map[string]func(n *net.Net){
		"an input more":   func(n *net.Net) { _, _ = n.Input() },
		"a bus less":      func(n *net.Net) { n.In = n.In[:1] },
		"a register less": func(n *net.Net) { n.Regs = n.Regs[1:] },
	} {
		n := small(t)
		spoil(n)
		if s, e := sim.New(n); s != nil || e != api.ErrUndriven {
			t.Errorf("%s: %v, error %d", what, s, e)
		}
	}
}

// change changes all of a netlist like small's that may be changed behind New.
func change(n *net.Net) {
	_, _ = n.And(6, 10)
	_, _ = n.AddIn("c", 3)
	_, _ = n.AddReg(true)
	_ = n.AddOut("z", 2)
	n.Name = ""
	n.In[0].Name = "b"
	n.In[0].Lits[0], n.In[0].Lits[1] = 4, 2
	n.In[1].Lits[0] = 99
	n.Regs[0] = net.Reg{Q: 99, D: 99, En: 99}
	n.Regs[1].Init = true
	n.Regs[1].D, n.Regs[1].En = 2, 0
	n.Out[0].Lits[0], n.Out[0].Lits[1] = 99, 99
	n.Out[1] = net.Bus{}
}

// P8.1: a netlist that is changed behind New is simulated as it was, also after Reset, and by copies; New and Step change nothing of it.
func TestChangedBehindNew(t *testing.T) {
	d := dice(10)
	n := small(t)
	was := n.Copy()
	s, p := begun(t, n), plainly(was)
	for range 2 {
		wantStep(t, s, p, d.in(was))
	}
	must(t, s.Reset())
	if !net.Same(n, was) {
		t.Error("the netlist is changed")
	}
	change(n)
	p = plainly(was)
	wantAt(t, s, p)
	for range 3 {
		wantStep(t, s, p, d.in(was))
	}
	*n = net.Net{}
	wantStep(t, s, p, d.in(was))
	c, q := s.Copy(), *p
	wantStep(t, c, &q, d.in(was))
	must(t, s.Reset())
	p = plainly(was)
	wantAt(t, s, p)
	wantStep(t, s, p, d.in(was))
	// 16 is the first literal whose node was not there when New was called.
	if w, e := s.Words(16); len(w) != 0 || e != api.ErrArg {
		t.Errorf("Words of a node that came later: %x, error %d", w, e)
	}
}

// P8.1 to P8.3: what is handed in stays, and is not kept.
func TestHandedIn(t *testing.T) {
	d := dice(11)
	for range 200 {
		n := d.net(t)
		s, p := begun(t, n), plainly(n)
		for range 4 {
			in := d.in(n)
			for i := range in {
				// Behind each row there is room that is not handed in.
				in[i] = append(in[i], 77, 78)[:len(in[i])]
			}
			before := copied(in)
			wantStep(t, s, p, in)
			if !same(in, before) {
				t.Fatalf("Step changes %x to %x", before, in)
			}
			for i := range in {
				if room := in[i][len(in[i]) : len(in[i])+2]; room[0] != 77 || room[1] != 78 {
					t.Fatalf("Step writes behind what is handed in: %x", room)
				}
			}
			spoil(in...)
			wantAt(t, s, p)
			l := every(n.Nodes())
			_, e := s.Words(l...)
			must(t, e)
			if !slices.Equal(l, every(n.Nodes())) {
				t.Fatal("Words changes its literals")
			}
		}
	}
}

// P8.1 to P8.3: what is told is new memory, and no two lists of it share any.
func TestNewMemory(t *testing.T) {
	d := dice(12)
	for range 200 {
		n := d.net(t)
		s, p := begun(t, n), plainly(n)
		c, q := s.Copy(), plainly(n)
		for range 4 {
			regs, again := s.Regs(), s.Regs()
			spoil(regs)
			if !slices.Equal(again, p.has) {
				t.Fatal("two answers of Regs share memory")
			}
			spoil(again)
			wantAt(t, s, p)

			in := d.in(n)
			out, e := s.Step(in)
			must(t, e)
			want := p.step(in)
			for i := range out {
				spoil(out[i])
				if !same(out[i+1:], want[i+1:]) {
					t.Fatal("two lists of Step's answer share memory")
				}
			}
			wantAt(t, s, p)

			words, e := s.Words(every(n.Nodes())...)
			must(t, e)
			spoil(words)
			wantAt(t, s, p)
			wantStep(t, c, q, in)
		}
	}
}

// P8.1, P8.4: a chain of as many registers as there may be: what comes in goes along it, one step a cycle.
func TestChain(t *testing.T) {
	n := made(t, both)
	l, e := n.AddIn("a", 1)
	must(t, e)
	ahead := l[0]
	for range api.MaxRegs {
		q, e := n.AddReg(false)
		must(t, e)
		// Asked of n, SetReg would go through all registers each time.
		n.Regs[len(n.Regs)-1].D, n.Regs[len(n.Regs)-1].En = ahead, lit.True
		ahead = q
	}
	must(t, n.AddOut("x", ahead))
	s := begun(t, n)
	d := dice(13)
	var came []uint64
	for i := range 40 {
		came = append(came, d.word())
		out, e := s.Step([][]uint64{{came[i]}})
		if e != api.OK || !same(out, [][]uint64{{0}}) {
			t.Fatalf("cycle %d: %x, error %d", i, out, e)
		}
		regs := s.Regs()
		for k := range regs {
			want := uint64(0)
			if k <= i {
				want = came[i-k]
			}
			if regs[k] != want {
				t.Fatalf("cycle %d: register %d has %x, not %x", i, k, regs[k], want)
			}
		}
	}
	if s.Cycles() != 40 {
		t.Errorf("Cycles = %d", s.Cycles())
	}
}
