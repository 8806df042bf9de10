package net_test

import (
	"math"
	"slices"
	"strconv"
	"strings"
	"testing"

	"orrery/aig"
	"orrery/api"
	"orrery/lit"
	"orrery/net"
)

// both are the settings that make nothing twice.
var both = aig.Options{Fold: true, Hash: true}

// theOptions are all four settings.
func theOptions() []aig.Options {
	return []aig.Options{{}, {Fold: true}, {Hash: true}, both}
}

// most is how many inputs and gates a graph may have in all before it takes no input any more.
const most = api.MaxRegs + api.MaxGates

// dice tells the same numbers in each run.
type dice uint64

// roll is a number below n.
func (d *dice) roll(n int) int {
	*d = *d*6364136223846793005 + 1442695040888963407
	return int(uint64(*d) >> 33 % uint64(n))
}

// made is a new netlist.
func made(t *testing.T, o aig.Options) *net.Net {
	t.Helper()
	n, e := net.New("n", o)
	if e != api.OK {
		t.Fatalf("New: error %d", e)
	}
	return n
}

// must fails, if there is an error.
func must(t *testing.T, e api.Errno) {
	t.Helper()
	if e != api.OK {
		t.Fatalf("error %d", e)
	}
}

// wantErr fails, if e is not want.
func wantErr(t *testing.T, what string, e, want api.Errno) {
	t.Helper()
	if e != want {
		t.Errorf("%s: error %d, not %d", what, e, want)
	}
}

// small is a netlist with buses a (2 4), b (6), registers 8 and 10, gates 12 and 14, and buses x (12 13), y (1).
func small(t *testing.T) *net.Net {
	t.Helper()
	n := made(t, both)
	_, e := n.AddIn("a", 2)
	must(t, e)
	_, e = n.AddIn("b", 1)
	must(t, e)
	_, e = n.AddReg(true)
	must(t, e)
	_, e = n.AddReg(false)
	must(t, e)
	_, e = n.And(2, 8)
	must(t, e)
	_, e = n.And(12, 5)
	must(t, e)
	must(t, n.SetReg(8, 14, 6))
	must(t, n.SetReg(10, 9, 1))
	must(t, n.AddOut("x", 12, 13))
	must(t, n.AddOut("y", 1))
	return n
}

// unmade are netlists that New did not make, and none.
func unmade() []*net.Net {
	return []*net.Net{nil, {}, {Name: "n"}, {Graph: &aig.Graph{}}, {Graph: &aig.Graph{}, Name: "n"}}
}

// same fails, if n is not like want, or if Same is not told so by its parts.
func same(t *testing.T, what string, n, want *net.Net) {
	t.Helper()
	alike := func(a, b net.Bus) bool { return a.Name == b.Name && slices.Equal(a.Lits, b.Lits) }
	if !net.Same(n, want) || !aig.Same(n.Graph, want.Graph) || n.Name != want.Name ||
		!slices.EqualFunc(n.In, want.In, alike) || !slices.EqualFunc(n.Out, want.Out, alike) || !slices.Equal(n.Regs, want.Regs) {
		t.Errorf("%s: %v, not %v", what, n, want)
	}
}

// P6.1: names by their length.
func TestMayNameLength(t *testing.T) {
	for n := range 200 {
		for _, of := range []string{"a", "_", "@", "?", "0", "Z"} {
			if is := net.MayName(strings.Repeat(of, n)); is != (n >= 1 && n <= 80) {
				t.Errorf("MayName of %d times %s: %v", n, of, is)
			}
		}
	}
}

// P6.1: each byte alone, and at the beginning, in the middle and at the end of a name.
func TestMayNameBytes(t *testing.T) {
	const signs = "abcdefghijklmnopqrstuvwxyzABCDEFGHIJKLMNOPQRSTUVWXYZ0123456789_@?"
	for b := range 256 {
		s := string([]byte{byte(b)})
		want := strings.IndexByte(signs, byte(b)) >= 0
		for _, name := range []string{s, s + "a", "a" + s + "a", "a" + s, strings.Repeat("a", 79) + s} {
			if net.MayName(name) != want {
				t.Errorf("MayName(%q): %v", name, !want)
			}
		}
		if net.MayName(strings.Repeat("a", 80) + s) {
			t.Errorf("MayName of 81 bytes, the last one %d", b)
		}
	}
	for _, name := range []string{"é", "aé", "a b", "a.b", "a-b", "a\n", "\x00", "ａ"} {
		if net.MayName(name) {
			t.Errorf("MayName(%q)", name)
		}
	}
}

// P6.1: New.
func TestNew(t *testing.T) {
	for _, o := range theOptions() {
		for _, name := range []string{"a", "main", "_", "@", "?", "9", strings.Repeat("x", 80)} {
			n, e := net.New(name, o)
			if e != api.OK || n == nil || n.Name != name || len(n.In)+len(n.Out)+len(n.Regs) != 0 || !aig.Same(n.Graph, aig.New(o)) {
				t.Fatalf("New(%s): %v, error %d", name, n, e)
			}
			if n.Bits() != 0 || n.Check() != api.OK || n.Options() != o || n.Nodes() != 1 {
				t.Errorf("New(%s): %d, %d, %v, %d", name, n.Bits(), n.Check(), n.Options(), n.Nodes())
			}
			again, _ := net.New(name, o)
			if again == n || again.Graph == n.Graph {
				t.Error("New tells one netlist twice")
			}
		}
		for _, name := range []string{"", "a b", "a-", "é", strings.Repeat("x", 81)} {
			if n, e := net.New(name, o); n != nil || e != api.ErrArg {
				t.Errorf("New(%q): %v, error %d", name, n, e)
			}
		}
	}
}

// P6.1: what the graph can do the netlist can, in the very graph.
func TestPromoted(t *testing.T) {
	for _, o := range theOptions() {
		n, g := made(t, o), aig.New(o)
		for range 3 {
			a, e := n.Input()
			b, f := g.Input()
			if a != b || e != f {
				t.Error(a, e, b, f)
			}
		}
		for _, l := range [][]lit.Lit{{2, 4}, {2, 5, 6}, {2, 2}, {}, {2, 99}} {
			a, e := n.And(l...)
			b, f := g.And(l...)
			if a != b || e != f {
				t.Error("And", l, a, e, b, f)
			}
			a, e = n.Or(l...)
			b, f = g.Or(l...)
			if a != b || e != f {
				t.Error("Or", l, a, e, b, f)
			}
			a, e = n.Xor(l...)
			b, f = g.Xor(l...)
			if a != b || e != f {
				t.Error("Xor", l, a, e, b, f)
			}
		}
		a, e := n.Mux(2, 4, 6)
		b, f := g.Mux(2, 4, 6)
		if a != b || e != f {
			t.Error("Mux", a, e, b, f)
		}
		a, e = n.Raw(2, 2)
		b, f = g.Raw(2, 2)
		if a != b || e != f {
			t.Error("Raw", a, e, b, f)
		}
		if !aig.Same(n.Graph, g) || n.Nodes() != g.Nodes() || n.Gates() != g.Gates() || !slices.Equal(n.Inputs(), g.Inputs()) {
			t.Error(n.Graph, g)
		}
		u, e := n.Eval([]uint64{1, 2, 3})
		w, f := g.Eval([]uint64{1, 2, 3})
		if !slices.Equal(u, w) || e != f {
			t.Error("Eval", u, e, w, f)
		}
	}
	var none net.Net
	if _, e := none.And(2, 4); e != api.ErrNil {
		t.Error("And of a netlist without a graph:", e)
	}
}

// P6.2: AddIn tells new inputs, in their order, at each width.
func TestAddIn(t *testing.T) {
	for _, o := range theOptions() {
		n := made(t, o)
		next := 1
		for width := 1; width <= 64; width++ {
			name := "a" + strconv.Itoa(width)
			l, e := n.AddIn(name, width)
			if e != api.OK || len(l) != width {
				t.Fatalf("AddIn of %d: %v, error %d", width, l, e)
			}
			for i, one := range l {
				if one != lit.Lit(2*next) {
					t.Errorf("AddIn of %d: literal %d is %d, not %d", width, i, one, 2*next)
				}
				next++
			}
			b := n.In[len(n.In)-1]
			if len(n.In) != width || b.Name != name || !slices.Equal(b.Lits, l) || n.Nodes() != next || len(n.Inputs()) != next-1 {
				t.Errorf("AddIn of %d: %v", width, b)
			}
			wantErr(t, "Check", n.Check(), api.OK)
		}
		if n.Gates() != 0 || len(n.Out) != 0 || len(n.Regs) != 0 {
			t.Error("AddIn makes more than inputs")
		}
	}
}

// P6.2: AddIn of what may not be, and the order of the errors.
func TestAddInErrors(t *testing.T) {
	n := small(t)
	before := n.Copy()
	for _, x := range []struct {
		name  string
		width int
		want  api.Errno
	}{
		{"", 1, api.ErrArg}, {"c d", 1, api.ErrArg}, {strings.Repeat("c", 81), 1, api.ErrArg}, {"c.", 1, api.ErrArg},
		{"c", 0, api.ErrArg}, {"c", -1, api.ErrArg}, {"c", math.MinInt, api.ErrArg}, {"c", 65, api.ErrArg}, {"c", math.MaxInt, api.ErrArg},
		{"a", 0, api.ErrArg}, {"a", 65, api.ErrArg}, {"a", -1, api.ErrArg},
		{"a", 1, api.ErrThere}, {"b", 64, api.ErrThere}, {"a", 2, api.ErrThere},
	} {
		l, e := n.AddIn(x.name, x.width)
		wantErr(t, "AddIn "+x.name+" "+strconv.Itoa(x.width), e, x.want)
		if len(l) != 0 {
			t.Error("AddIn tells literals beside an error")
		}
		same(t, "AddIn changes", n, before)
	}
	// A name that goes out, or that is like another but for a letter's case, is free.
	for _, name := range []string{"x", "A", "a_", strings.Repeat("c", 80)} {
		if l, e := n.AddIn(name, 1); e != api.OK || len(l) != 1 {
			t.Error(name, l, e)
		}
	}
	wantErr(t, "Check", n.Check(), api.OK)
}

// P6.2: what AddIn tells is new memory, bus by bus.
func TestAddInNewMemory(t *testing.T) {
	n := made(t, both)
	a, _ := n.AddIn("a", 2)
	b, _ := n.AddIn("b", 2)
	a[0], a[1], b[0], b[1] = 99, 98, 97, 96
	_ = append(a[:1], 95)
	if !slices.Equal(n.In[0].Lits, []lit.Lit{2, 4}) || !slices.Equal(n.In[1].Lits, []lit.Lit{6, 8}) {
		t.Error(n.In)
	}
	wantErr(t, "Check", n.Check(), api.OK)
}

// P6.2, P6.6: the graph's own limit on inputs: a bus that has no room comes in not at all.
func TestAddInFull(t *testing.T) {
	n := made(t, aig.Options{})
	for i := range most/64 - 1 {
		if _, e := n.AddIn("a"+strconv.Itoa(i), 64); e != api.OK {
			t.Fatal(i, e)
		}
	}
	_, e := n.AddIn("b", 1)
	must(t, e)
	for range 2 {
		nodes, buses := n.Nodes(), len(n.In)
		l, e := n.AddIn("c", 64)
		if e != api.ErrFull || len(l) != 0 || n.Nodes() != nodes || len(n.In) != buses || n.Check() != api.OK {
			t.Error(len(l), e, n.Nodes()-nodes, len(n.In)-buses, n.Check())
		}
	}
	// What is wrong otherwise is told ahead of it.
	_, e = n.AddIn("b", 64)
	wantErr(t, "AddIn of a name that is there", e, api.ErrThere)
	_, e = n.AddIn("b", 65)
	wantErr(t, "AddIn of 65", e, api.ErrArg)
	if l, e := n.AddIn("c", 63); e != api.OK || len(l) != 63 || n.Nodes() != most+1 {
		t.Fatal(len(l), e, n.Nodes())
	}
	l, e := n.AddIn("d", 1)
	if e != api.ErrFull || len(l) != 0 || n.Nodes() != most+1 {
		t.Error(l, e)
	}
	q, e := n.AddReg(true)
	if e != api.ErrFull || q != 0 || n.Bits() != 0 || n.Nodes() != most+1 {
		t.Error(q, e)
	}
	wantErr(t, "Check", n.Check(), api.OK)
	must(t, n.AddOut("x", 2, lit.Lit(2*most+1)))
}

// P6.2: gates take the inputs' room, too.
func TestAddInBehindGates(t *testing.T) {
	n := made(t, aig.Options{})
	_, e := n.AddIn("a", 2)
	must(t, e)
	for range api.MaxGates {
		if _, e := n.Raw(2, 4); e != api.OK {
			t.Fatal(e)
		}
	}
	left := api.MaxRegs - 2
	for i := 0; left >= 64; i, left = i+1, left-64 {
		if l, e := n.AddIn("b"+strconv.Itoa(i), 64); e != api.OK || len(l) != 64 {
			t.Fatal(i, e)
		}
	}
	_, e = n.AddIn("c", left+1)
	wantErr(t, "AddIn of one too many", e, api.ErrFull)
	if n.Nodes() != most+1-left {
		t.Error(n.Nodes())
	}
	_, e = n.AddIn("c", left)
	must(t, e)
	if _, e := n.AddReg(false); e != api.ErrFull {
		t.Error("AddReg:", e)
	}
	wantErr(t, "Check", n.Check(), api.OK)
}

// P6.2: AddOut of one literal, of one twice, of 64, of constants, of turned ones, of gates and Qs.
func TestAddOut(t *testing.T) {
	n := small(t)
	many := make([]lit.Lit, 64)
	for i := range many {
		many[i] = lit.Lit(i % 16)
	}
	for i, l := range [][]lit.Lit{{2}, {3}, {0}, {1}, {8}, {12, 12}, {14, 15}, {15}, many} {
		given := slices.Clone(l)
		name := "o" + strconv.Itoa(i)
		nodes := n.Nodes()
		wantErr(t, "AddOut", n.AddOut(name, l...), api.OK)
		b := n.Out[len(n.Out)-1]
		if len(n.Out) != i+3 || b.Name != name || !slices.Equal(b.Lits, given) || n.Nodes() != nodes || len(n.In) != 2 || len(n.Regs) != 2 {
			t.Errorf("AddOut(%v): %v", given, b)
		}
		if !slices.Equal(l, given) {
			t.Errorf("AddOut made %v of %v", l, given)
		}
		wantErr(t, "Check", n.Check(), api.OK)
	}
	must(t, n.AddOut("a", 2))
	if l, is := net.Find(n.Out, "a"); !is || !slices.Equal(l, []lit.Lit{2}) {
		t.Error(l, is)
	}
}

// P6.2: AddOut of what may not be, and the order of the errors.
func TestAddOutErrors(t *testing.T) {
	n := small(t)
	before := n.Copy()
	for _, x := range []struct {
		name string
		l    []lit.Lit
		want api.Errno
	}{
		{"", []lit.Lit{2}, api.ErrArg}, {"z z", []lit.Lit{2}, api.ErrArg}, {strings.Repeat("z", 81), []lit.Lit{2}, api.ErrArg},
		{"z", nil, api.ErrArg}, {"z", []lit.Lit{}, api.ErrArg}, {"z", make([]lit.Lit, 65), api.ErrArg}, {"z", make([]lit.Lit, 1000), api.ErrArg},
		{"z", []lit.Lit{16}, api.ErrArg}, {"z", []lit.Lit{17}, api.ErrArg}, {"z", []lit.Lit{2, 16, 2}, api.ErrArg}, {"z", []lit.Lit{2, math.MaxUint32}, api.ErrArg},
		{"x", nil, api.ErrArg}, {"x", []lit.Lit{16}, api.ErrArg}, {"x", make([]lit.Lit, 65), api.ErrArg},
		{"x", []lit.Lit{2}, api.ErrThere}, {"y", make([]lit.Lit, 64), api.ErrThere}, {"x", []lit.Lit{12, 13}, api.ErrThere},
	} {
		wantErr(t, "AddOut "+x.name, n.AddOut(x.name, x.l...), x.want)
		same(t, "AddOut changes", n, before)
	}
	for _, name := range []string{"a", "b", "X", "n", strings.Repeat("z", 80)} {
		wantErr(t, "AddOut "+name, n.AddOut(name, 15), api.OK)
	}
	wantErr(t, "Check", n.Check(), api.OK)
}

// P6.2: what is handed to AddOut is not kept.
func TestAddOutNotKept(t *testing.T) {
	n := made(t, both)
	l := []lit.Lit{0, 1}
	must(t, n.AddOut("x", l...))
	must(t, n.AddOut("y", l...))
	l[0], l[1] = 99, 98
	n.Out[1].Lits[1] = 0
	if !slices.Equal(n.Out[0].Lits, []lit.Lit{0, 1}) || !slices.Equal(n.Out[1].Lits, []lit.Lit{0, 0}) {
		t.Error(n.Out)
	}
}

// P6.3: AddReg.
func TestAddReg(t *testing.T) {
	for _, o := range theOptions() {
		n := made(t, o)
		for i := range 10 {
			init := i%3 == 0
			q, e := n.AddReg(init)
			if e != api.OK || q != lit.Lit(2*i+2) {
				t.Fatal(i, q, e)
			}
			if r := n.Regs[i]; r != (net.Reg{Q: q, D: lit.False, En: lit.False, Init: init}) || n.Bits() != i+1 || len(n.Regs) != i+1 {
				t.Error(i, r, n.Bits())
			}
			wantErr(t, "Check", n.Check(), api.OK)
		}
		if n.Nodes() != 11 || n.Gates() != 0 || len(n.In)+len(n.Out) != 0 {
			t.Error(n)
		}
	}
}

// P6.3, P6.6: MaxRegs registers, and one more.
func TestAddRegFull(t *testing.T) {
	n := made(t, both)
	for i := range api.MaxRegs {
		if q, e := n.AddReg(i&1 == 1); e != api.OK || q != lit.Lit(2*i+2) {
			t.Fatal(i, q, e)
		}
	}
	for range 2 {
		if q, e := n.AddReg(true); e != api.ErrFull || q != 0 || n.Bits() != api.MaxRegs || n.Nodes() != api.MaxRegs+1 {
			t.Error(q, e, n.Bits(), n.Nodes())
		}
	}
	wantErr(t, "Check", n.Check(), api.OK)
	must(t, n.SetReg(2*api.MaxRegs, 2, 5))
	if r := n.Regs[api.MaxRegs-1]; r != (net.Reg{Q: 2 * api.MaxRegs, D: 2, En: 5, Init: true}) {
		t.Error(r)
	}
	_, e := n.AddIn("a", 64)
	must(t, e)
	wantErr(t, "Check", n.Check(), api.OK)
}

// P6.3: SetReg changes one register's D and En alone, also to itself and to another's Q, and again.
func TestSetReg(t *testing.T) {
	n := small(t)
	for _, x := range []struct{ q, d, en lit.Lit }{
		{8, 8, 1}, {8, 9, 8}, {8, 10, 11}, {10, 8, 1}, {10, 15, 14}, {8, 0, 0}, {10, 1, 1}, {8, 2, 3}, {8, 2, 3},
	} {
		want := n.Copy()
		i := int(x.q-8) / 2
		want.Regs[i] = net.Reg{Q: x.q, D: x.d, En: x.en, Init: want.Regs[i].Init}
		wantErr(t, "SetReg", n.SetReg(x.q, x.d, x.en), api.OK)
		same(t, "SetReg", n, want)
		wantErr(t, "Check", n.Check(), api.OK)
	}
}

// P6.3, P6.6: SetReg of what may not be.
func TestSetRegErrors(t *testing.T) {
	n := small(t)
	before := n.Copy()
	for _, x := range []struct{ q, d, en lit.Lit }{
		{0, 1, 1}, {1, 1, 1}, {2, 1, 1}, {6, 1, 1}, {9, 1, 1}, {11, 1, 1}, {12, 1, 1}, {16, 1, 1}, {math.MaxUint32, 1, 1},
		{8, 16, 1}, {8, 17, 1}, {8, 1, 16}, {8, 1, 17}, {8, math.MaxUint32, 1}, {10, 1, math.MaxUint32}, {10, 16, 16},
	} {
		wantErr(t, "SetReg", n.SetReg(x.q, x.d, x.en), api.ErrArg)
		same(t, "SetReg changes", n, before)
	}
	wantErr(t, "SetReg without registers", made(t, both).SetReg(0, 0, 0), api.ErrArg)
}

// P6.2 to P6.4: netlists that New did not make, and none: ErrNil comes ahead of all other errors.
func TestUnmade(t *testing.T) {
	for i, n := range unmade() {
		what := "unmade " + strconv.Itoa(i)
		for _, name := range []string{"a", ""} {
			for _, width := range []int{0, 1, 65} {
				l, e := n.AddIn(name, width)
				wantErr(t, what+": AddIn", e, api.ErrNil)
				if len(l) != 0 {
					t.Error(what, l)
				}
			}
			wantErr(t, what+": AddOut", n.AddOut(name), api.ErrNil)
			wantErr(t, what+": AddOut", n.AddOut(name, 0), api.ErrNil)
			wantErr(t, what+": AddOut", n.AddOut(name, 99), api.ErrNil)
		}
		q, e := n.AddReg(true)
		wantErr(t, what+": AddReg", e, api.ErrNil)
		wantErr(t, what+": SetReg", n.SetReg(0, 0, 0), api.ErrNil)
		wantErr(t, what+": SetReg", n.SetReg(2, 99, 0), api.ErrNil)
		wantErr(t, what+": Check", n.Check(), api.ErrNil)
		if q != 0 || n.Bits() != 0 || n.Copy() != nil {
			t.Error(what, q, n.Bits(), n.Copy())
		}
		if n != nil && (len(n.In)+len(n.Out)+len(n.Regs) != 0 || n.Nodes() != 0) {
			t.Error(what, "is changed:", n)
		}
	}
	bad := &net.Net{Name: "", In: []net.Bus{{}}, Regs: make([]net.Reg, api.MaxRegs+1)}
	wantErr(t, "Check without a graph", bad.Check(), api.ErrNil)
	_, e := bad.AddReg(true)
	wantErr(t, "AddReg without a graph", e, api.ErrNil)
	if bad.Copy() != nil || bad.Bits() != api.MaxRegs+1 {
		t.Error(bad.Copy(), bad.Bits())
	}
}

// spoiled are ways in which a netlist like small's is not well formed.
func spoiled() map[string]func(n *net.Net) {
	wide := make([]lit.Lit, 65)
	return map[string]func(n *net.Net){
		"no name":               func(n *net.Net) { n.Name = "" },
		"name of 81":            func(n *net.Net) { n.Name = strings.Repeat("n", 81) },
		"name with a blank":     func(n *net.Net) { n.Name = "n n" },
		"in: no name":           func(n *net.Net) { n.In[0].Name = "" },
		"in: name of 81":        func(n *net.Net) { n.In[1].Name = strings.Repeat("n", 81) },
		"in: name with a dot":   func(n *net.Net) { n.In[1].Name = "a.b" },
		"in: name twice":        func(n *net.Net) { n.In[1].Name = "a" },
		"in: none":              func(n *net.Net) { n.In[0].Lits = nil },
		"in: a bus of none":     func(n *net.Net) { n.In = append(n.In, net.Bus{Name: "c"}) },
		"in: 65":                func(n *net.Net) { n.In[0].Lits = wide },
		"in: turned":            func(n *net.Net) { n.In[0].Lits[1] = 5 },
		"in: turned, alone":     func(n *net.Net) { n.In[1].Lits[0] = 7 },
		"in: False":             func(n *net.Net) { n.In[0].Lits[1] = 0 },
		"in: True":              func(n *net.Net) { n.In[0].Lits[1] = 1 },
		"in: a gate":            func(n *net.Net) { n.In[0].Lits[1] = 12 },
		"in: twice in a bus":    func(n *net.Net) { n.In[0].Lits[1] = 2 },
		"in: in two buses":      func(n *net.Net) { n.In[1].Lits[0] = 4 },
		"in: a Q":               func(n *net.Net) { n.In[0].Lits[1] = 8 },
		"in: no node":           func(n *net.Net) { n.In[0].Lits[1] = 16 },
		"in: one more, twice":   func(n *net.Net) { n.In[0].Lits = append(n.In[0].Lits, 2) },
		"in: a great literal":   func(n *net.Net) { n.In[0].Lits[1] = math.MaxUint32 - 1 },
		"out: no name":          func(n *net.Net) { n.Out[0].Name = "" },
		"out: name of 81":       func(n *net.Net) { n.Out[1].Name = strings.Repeat("n", 81) },
		"out: name with a sign": func(n *net.Net) { n.Out[1].Name = "a#" },
		"out: name twice":       func(n *net.Net) { n.Out[1].Name = "x" },
		"out: name twice, far":  func(n *net.Net) { n.Out = append(n.Out, net.Bus{Name: "z", Lits: []lit.Lit{0}}, n.Out[0]) },
		"out: none":             func(n *net.Net) { n.Out[0].Lits = nil },
		"out: 65":               func(n *net.Net) { n.Out[1].Lits = wide },
		"out: no node":          func(n *net.Net) { n.Out[1].Lits[0] = 16 },
		"out: no node, behind":  func(n *net.Net) { n.Out[0].Lits[1] = 17 },
		"Q: turned":             func(n *net.Net) { n.Regs[0].Q = 9 },
		"Q: False":              func(n *net.Net) { n.Regs[0].Q = 0 },
		"Q: True":               func(n *net.Net) { n.Regs[0].Q = 1 },
		"Q: a gate":             func(n *net.Net) { n.Regs[0].Q = 14 },
		"Q: twice":              func(n *net.Net) { n.Regs[1].Q = 8 },
		"Q: in a bus":           func(n *net.Net) { n.Regs[0].Q = 2 },
		"Q: no node":            func(n *net.Net) { n.Regs[1].Q = 16 },
		"D: no node":            func(n *net.Net) { n.Regs[0].D = 16 },
		"D: no node, turned":    func(n *net.Net) { n.Regs[1].D = 17 },
		"En: no node":           func(n *net.Net) { n.Regs[0].En = 16 },
		"En: a great literal":   func(n *net.Net) { n.Regs[1].En = math.MaxUint32 },
		"a register twice":      func(n *net.Net) { n.Regs = append(n.Regs, n.Regs[0]) },
		"another graph":         func(n *net.Net) { n.Graph = aig.New(both) },
	}
}

// P6.4: each way in which a netlist is not well formed; Check only reads it.
func TestCheckSpoiled(t *testing.T) {
	for what, spoil := range spoiled() {
		n := small(t)
		wantErr(t, "Check", n.Check(), api.OK)
		spoil(n)
		before := n.Copy()
		wantErr(t, what, n.Check(), api.ErrArg)
		same(t, what, n, before)
	}
}

// P6.4: ErrArg comes ahead of ErrUndriven.
func TestCheckSpoiledAndOpen(t *testing.T) {
	for what, spoil := range spoiled() {
		n := small(t)
		spoil(n)
		n.In = slices.DeleteFunc(n.In, func(b net.Bus) bool { return b.Name == "b" && len(b.Lits) == 1 && b.Lits[0] == 6 })
		wantErr(t, what+", and an input in no bus", n.Check(), api.ErrArg)
	}
}

// P6.4: an input in no bus and no register.
func TestCheckOpen(t *testing.T) {
	for what, spoil := range map[string]func(n *net.Net){
		"a new input":          func(n *net.Net) { must(t, second(n.Input())) },
		"an input of a graph":  func(n *net.Net) { must(t, second(n.Graph.Input())) },
		"a bus less":           func(n *net.Net) { n.In = n.In[:1] },
		"the first bus less":   func(n *net.Net) { n.In = n.In[1:] },
		"a literal less":       func(n *net.Net) { n.In[0].Lits = n.In[0].Lits[:1] },
		"a register less":      func(n *net.Net) { n.Regs = n.Regs[:1] },
		"all registers less":   func(n *net.Net) { n.Regs = nil },
		"nothing but a graph":  func(n *net.Net) { n.In, n.Regs, n.Out = nil, nil, nil },
		"a Q, and a new input": func(n *net.Net) { must(t, second(n.Input())); n.Regs[1].Q = 16 },
	} {
		n := small(t)
		spoil(n)
		before := n.Copy()
		wantErr(t, what, n.Check(), api.ErrUndriven)
		same(t, what, n, before)
	}
	n := made(t, both)
	must(t, second(n.Input()))
	wantErr(t, "an input alone", n.Check(), api.ErrUndriven)
	n.In = []net.Bus{{Name: "a", Lits: []lit.Lit{2}}}
	wantErr(t, "an input, and a bus of it", n.Check(), api.OK)
}

// second is the error of an answer.
func second(_ lit.Lit, e api.Errno) api.Errno { return e }

// P6.4: what else may be: buses in another order of inputs, a bus across two calls, names that go in and out.
func TestCheckMay(t *testing.T) {
	for what, change := range map[string]func(n *net.Net){
		"bits exchanged":      func(n *net.Net) { n.In[0].Lits[0], n.In[0].Lits[1] = 4, 2 },
		"buses exchanged":     func(n *net.Net) { n.In[0], n.In[1] = n.In[1], n.In[0] },
		"a Q in a bus":        func(n *net.Net) { n.In[1].Lits[0], n.Regs[0].Q = 8, 6 },
		"registers exchanged": func(n *net.Net) { n.Regs[0], n.Regs[1] = n.Regs[1], n.Regs[0] },
		"a wider bus":         func(n *net.Net) { n.In = []net.Bus{{Name: "a", Lits: []lit.Lit{2, 4, 6}}} },
		"a name in and out":   func(n *net.Net) { n.Out[0].Name = "a" },
		"the name of all":     func(n *net.Net) { n.In[0].Name, n.Out[0].Name = "n", "n" },
		"long names": func(n *net.Net) {
			n.Name, n.In[0].Name, n.Out[0].Name = strings.Repeat("n", 80), strings.Repeat("n", 80), strings.Repeat("n", 80)
		},
		"64 out":    func(n *net.Net) { n.Out[0].Lits = make([]lit.Lit, 64) },
		"all out":   func(n *net.Net) { n.Out[0].Lits = []lit.Lit{0, 1, 2, 3, 8, 9, 12, 13, 14, 15} },
		"none out":  func(n *net.Net) { n.Out = nil },
		"D of True": func(n *net.Net) { n.Regs[0].D, n.Regs[0].En = 1, 15 },
	} {
		n := small(t)
		change(n)
		wantErr(t, what, n.Check(), api.OK)
	}
}

// P6.4: MaxRegs registers are well formed, one more is not.
func TestCheckRegs(t *testing.T) {
	n := made(t, both)
	for range api.MaxRegs {
		must(t, second(n.AddReg(false)))
	}
	wantErr(t, "MaxRegs", n.Check(), api.OK)
	q, e := n.Input()
	must(t, e)
	wantErr(t, "an input more", n.Check(), api.ErrUndriven)
	n.Regs = append(n.Regs, net.Reg{Q: q})
	wantErr(t, "a register more", n.Check(), api.ErrArg)
	n.Regs = n.Regs[1:]
	wantErr(t, "one less", n.Check(), api.ErrUndriven)
}

// P6.4: 64 inputs are a bus, 65 none.
func TestCheckWidth(t *testing.T) {
	n := made(t, both)
	l, e := n.AddIn("a", 64)
	must(t, e)
	wantErr(t, "64", n.Check(), api.OK)
	one, e := n.Input()
	must(t, e)
	n.In[0].Lits = append(l, one)
	wantErr(t, "65", n.Check(), api.ErrArg)
	n.In[0].Lits = n.In[0].Lits[1:]
	wantErr(t, "64 of 65", n.Check(), api.ErrUndriven)
}

// P6.4: Bits.
func TestBits(t *testing.T) {
	n := small(t)
	if n.Bits() != 2 {
		t.Error(n.Bits())
	}
	n.Regs = n.Regs[:1]
	if n.Bits() != 1 {
		t.Error(n.Bits())
	}
}

// P6.4: a copy has the same, also of what is not well formed.
func TestCopy(t *testing.T) {
	for _, o := range theOptions() {
		n := made(t, o)
		same(t, "an empty copy", n.Copy(), n)
	}
	same(t, "a copy", small(t).Copy(), small(t))
	for what, spoil := range spoiled() {
		n := small(t)
		spoil(n)
		same(t, what, n.Copy(), n)
	}
}

// changes are things that make a netlist like small's another one, one by one.
func changes(t *testing.T) map[string]func(n *net.Net) {
	return map[string]func(n *net.Net){
		"name":            func(n *net.Net) { n.Name = "m" },
		"graph":           func(n *net.Net) { must(t, second(n.Input())) },
		"gate":            func(n *net.Net) { must(t, second(n.Raw(2, 4))) },
		"bus in":          func(n *net.Net) { _, e := n.AddIn("c", 1); must(t, e) },
		"bus in, alone":   func(n *net.Net) { n.In = append(n.In, net.Bus{Name: "c", Lits: []lit.Lit{2}}) },
		"bus in less":     func(n *net.Net) { n.In = n.In[:1] },
		"name in":         func(n *net.Net) { n.In[1].Name = "c" },
		"literal in":      func(n *net.Net) { n.In[0].Lits[1] = 6 },
		"literals in":     func(n *net.Net) { n.In[0].Lits = n.In[0].Lits[:1] },
		"order in":        func(n *net.Net) { n.In[0], n.In[1] = n.In[1], n.In[0] },
		"bus out":         func(n *net.Net) { must(t, n.AddOut("z", 0)) },
		"bus out less":    func(n *net.Net) { n.Out = n.Out[:1] },
		"name out":        func(n *net.Net) { n.Out[1].Name = "c" },
		"literal out":     func(n *net.Net) { n.Out[0].Lits[1] = 12 },
		"literals out":    func(n *net.Net) { n.Out[0].Lits = append(n.Out[0].Lits, 1) },
		"order out":       func(n *net.Net) { n.Out[0], n.Out[1] = n.Out[1], n.Out[0] },
		"register":        func(n *net.Net) { must(t, second(n.AddReg(false))) },
		"register, alone": func(n *net.Net) { n.Regs = append(n.Regs, net.Reg{}) },
		"register less":   func(n *net.Net) { n.Regs = n.Regs[:1] },
		"Q":               func(n *net.Net) { n.Regs[0].Q = 2 },
		"D":               func(n *net.Net) { must(t, n.SetReg(8, 15, 6)) },
		"En":              func(n *net.Net) { must(t, n.SetReg(8, 14, 7)) },
		"Init":            func(n *net.Net) { n.Regs[1].Init = true },
		"order of Regs":   func(n *net.Net) { n.Regs[0], n.Regs[1] = n.Regs[1], n.Regs[0] },
		"options":         func(n *net.Net) { n.Graph = regrown(t, aig.Options{Fold: true}) },
		"no graph":        func(n *net.Net) { n.Graph = nil },
		"an empty graph":  func(n *net.Net) { n.Graph = aig.New(both) },
		"an unmade graph": func(n *net.Net) { n.Graph = &aig.Graph{} },
	}
}

// regrown is small's graph with other options.
func regrown(t *testing.T, o aig.Options) *aig.Graph {
	t.Helper()
	g := aig.New(o)
	for range 5 {
		must(t, second(g.Input()))
	}
	must(t, second(g.And(2, 8)))
	must(t, second(g.And(12, 5)))
	return g
}

// P6.4: a copy and what it is of live apart, in all their parts, both ways.
func TestCopyApart(t *testing.T) {
	for what, change := range changes(t) {
		n := small(t)
		m := n.Copy()
		if n == m || n.Graph == m.Graph {
			t.Fatal("the copy is the very netlist")
		}
		change(m)
		same(t, what+" of the copy", n, small(t))
		m = n.Copy()
		change(n)
		same(t, what, m, small(t))
	}
	// The literals of a copy's buses have no memory in common, either.
	m := small(t).Copy()
	_ = append(m.In[0].Lits, 99)
	_ = append(m.Out[0].Lits, 99)
	same(t, "append to a row", m, small(t))
}

// P6.4: Same of two alike, and of two that differ in just one thing.
func TestSame(t *testing.T) {
	if !net.Same(small(t), small(t)) || !net.Same(made(t, both), made(t, both)) {
		t.Error("two alike are not the same")
	}
	n := small(t)
	if !net.Same(n, n) {
		t.Error("one is not the same as itself")
	}
	for what, change := range changes(t) {
		m := small(t)
		change(m)
		if net.Same(n, m) || net.Same(m, n) {
			t.Error("the same, but for", what)
		}
		if m.Nodes() > 0 && !net.Same(m, m.Copy()) {
			t.Error("not the same as its copy:", what)
		}
	}
	for _, o := range theOptions() {
		m := made(t, o)
		if net.Same(m, made(t, both)) != (o == both) {
			t.Error(o)
		}
	}
	m := made(t, both)
	m.In, m.Out, m.Regs = []net.Bus{}, []net.Bus{}, []net.Reg{}
	if !net.Same(m, made(t, both)) {
		t.Error("empty lists are not like none")
	}
}

// P6.4: Same of none, and of those that New did not make.
func TestSameUnmade(t *testing.T) {
	for i, a := range unmade() {
		for j, b := range unmade() {
			if !net.Same(a, b) {
				t.Error(i, j)
			}
		}
		for _, b := range []*net.Net{made(t, aig.Options{}), small(t)} {
			if net.Same(a, b) || net.Same(b, a) {
				t.Error(i, b)
			}
		}
	}
	if !net.Same(&net.Net{Name: "a", Regs: []net.Reg{{}}}, nil) {
		t.Error("two that New did not make are not the same")
	}
}

// P6.4: Find tells the first of two, in new memory.
func TestFind(t *testing.T) {
	l := []net.Bus{{Name: "a", Lits: []lit.Lit{2}}, {Name: "b", Lits: []lit.Lit{4, 5}}, {Name: "b", Lits: []lit.Lit{6}}, {Name: "c"}, {Lits: []lit.Lit{8}}}
	for _, x := range []struct {
		name string
		want []lit.Lit
		is   bool
	}{
		{"a", []lit.Lit{2}, true}, {"b", []lit.Lit{4, 5}, true}, {"c", nil, true}, {"", []lit.Lit{8}, true},
		{"d", nil, false}, {"A", nil, false}, {"a ", nil, false}, {"bb", nil, false},
	} {
		got, is := net.Find(l, x.name)
		if is != x.is || !slices.Equal(got, x.want) {
			t.Errorf("Find(%q): %v, %v", x.name, got, is)
		}
	}
	got, _ := net.Find(l, "b")
	got[0] = 99
	if !slices.Equal(l[1].Lits, []lit.Lit{4, 5}) {
		t.Error("Find tells the very literals")
	}
	for _, none := range [][]net.Bus{nil, {}} {
		if got, is := net.Find(none, "a"); is || len(got) != 0 {
			t.Error(got, is)
		}
	}
}

// told is a netlist's lists, as the document tells them; nodes is how many nodes there are.
type told struct {
	in, out []net.Bus
	regs    []net.Reg
	nodes   int
}

// addIn is AddIn, as the document tells it.
func (w *told) addIn(name string, width int) ([]lit.Lit, api.Errno) {
	if width < 1 || width > 64 || !net.MayName(name) {
		return nil, api.ErrArg
	}
	for _, b := range w.in {
		if b.Name == name {
			return nil, api.ErrThere
		}
	}
	var l []lit.Lit
	for range width {
		l = append(l, lit.Lit(2*w.nodes))
		w.nodes++
	}
	w.in = append(w.in, net.Bus{Name: name, Lits: l})
	return l, api.OK
}

// addOut is AddOut, as the document tells it.
func (w *told) addOut(name string, l []lit.Lit) api.Errno {
	if len(l) < 1 || len(l) > 64 || !net.MayName(name) {
		return api.ErrArg
	}
	for _, one := range l {
		if int(one/2) >= w.nodes {
			return api.ErrArg
		}
	}
	for _, b := range w.out {
		if b.Name == name {
			return api.ErrThere
		}
	}
	w.out = append(w.out, net.Bus{Name: name, Lits: slices.Clone(l)})
	return api.OK
}

// setReg is SetReg, as the document tells it.
func (w *told) setReg(q, d, en lit.Lit) api.Errno {
	if int(d/2) >= w.nodes || int(en/2) >= w.nodes {
		return api.ErrArg
	}
	for i, r := range w.regs {
		if r.Q == q {
			w.regs[i] = net.Reg{Q: q, D: d, En: en, Init: r.Init}
			return api.OK
		}
	}
	return api.ErrArg
}

// step does the same to n and to the told one, and holds the answers against each other.
func step(t *testing.T, d *dice, n *net.Net, w *told) {
	t.Helper()
	names := []string{"a", "b", "c", "d@1", "e?", "_", "x y", "", "f", "g"}
	name := names[d.roll(len(names))]
	some := func() lit.Lit { return lit.Lit(d.roll(2*w.nodes + 3)) }
	switch d.roll(6) {
	case 0:
		width := d.roll(6) * d.roll(15)
		l, e := n.AddIn(name, width)
		want, f := w.addIn(name, width)
		if e != f || !slices.Equal(l, want) {
			t.Fatalf("AddIn(%s, %d): %v, %d, not %v, %d", name, width, l, e, want, f)
		}
	case 1:
		l := make([]lit.Lit, d.roll(4)*d.roll(4))
		for i := range l {
			l[i] = lit.Lit(d.roll(2 * w.nodes))
		}
		if len(l) > 0 && d.roll(4) == 0 {
			l[d.roll(len(l))] = some()
		}
		if e, f := n.AddOut(name, l...), w.addOut(name, l); e != f {
			t.Fatalf("AddOut(%s, %v): %d, not %d", name, l, e, f)
		}
	case 2:
		init := d.roll(2) == 0
		q, e := n.AddReg(init)
		if e != api.OK || q != lit.Lit(2*w.nodes) {
			t.Fatal(q, e)
		}
		w.regs = append(w.regs, net.Reg{Q: q, Init: init})
		w.nodes++
	case 3:
		q, a, b := some(), some(), some()
		if len(w.regs) > 0 && d.roll(2) == 0 {
			q = w.regs[d.roll(len(w.regs))].Q
		}
		if e, f := n.SetReg(q, a, b), w.setReg(q, a, b); e != f {
			t.Fatalf("SetReg(%d, %d, %d): %d, not %d", q, a, b, e, f)
		}
	case 4:
		_, _ = n.And(some(), some())
		w.nodes = n.Nodes()
	default:
		_, _ = n.Xor(some(), some())
		w.nodes = n.Nodes()
	}
}

// P6.1 to P6.6: whatever is called, the lists are as the document tells them, and Check tells OK.
func TestAsTold(t *testing.T) {
	for _, o := range theOptions() {
		for seed := range uint64(60) {
			d := dice(seed)
			n, w := made(t, o), &told{nodes: 1}
			for range 80 {
				step(t, &d, n, w)
				wantErr(t, "Check", n.Check(), api.OK)
				wantErr(t, "Check of a copy", n.Copy().Check(), api.OK)
			}
			same(t, "as told", n, &net.Net{Graph: n.Graph, Name: "n", In: w.in, Regs: w.regs, Out: w.out})
			if n.Nodes() != w.nodes || n.Bits() != len(w.regs) {
				t.Error(n.Nodes(), w.nodes, n.Bits(), len(w.regs))
			}
			if _, e := n.Input(); e != api.OK || n.Check() != api.ErrUndriven {
				t.Error("an input of the graph itself:", e, n.Check())
			}
		}
	}
}

// The chapter's examples.
func TestExamples(t *testing.T) {
	for _, o := range theOptions() {
		n := made(t, o)
		l, e := n.AddIn("a", 2)
		if e != api.OK || !slices.Equal(l, []lit.Lit{2, 4}) {
			t.Error(l, e)
		}
		if q, e := n.AddReg(true); e != api.OK || q != 6 {
			t.Error(q, e)
		}
		if a, e := n.And(2, 6); e != api.OK || a != 8 {
			t.Error(a, e)
		}
		wantErr(t, "SetReg", n.SetReg(6, 8, 1), api.OK)
		wantErr(t, "AddOut", n.AddOut("x", 9), api.OK)
		wantErr(t, "Check", n.Check(), api.OK)
		if l, e := n.Input(); e != api.OK || l != 10 {
			t.Error(l, e)
		}
		wantErr(t, "Check", n.Check(), api.ErrUndriven)
	}
}
