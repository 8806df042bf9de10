package emit_test

import (
	"fmt"
	"math"
	"slices"
	"strconv"
	"strings"
	"testing"

	"orrery/aig"
	"orrery/api"
	"orrery/emit"
	"orrery/lit"
	"orrery/net"
)

// both are the settings that make nothing twice.
var both = aig.Options{Fold: true, Hash: true}

// theOptions are all four settings.
func theOptions() []aig.Options {
	return []aig.Options{{}, {Fold: true}, {Hash: true}, both}
}

// dice tells the same numbers in each run.
type dice uint64

// roll is a number below n.
func (d *dice) roll(n int) int {
	*d = *d*6364136223846793005 + 1442695040888963407
	return int(uint64(*d) >> 33 % uint64(n))
}

// lits is so many literals of a graph of so many nodes.
func (d *dice) lits(n, nodes int) []lit.Lit {
	l := make([]lit.Lit, n)
	for i := range l {
		l[i] = lit.Lit(d.roll(2 * nodes))
	}
	return l
}

// gate makes one more gate, or a few.
func (d *dice) gate(t *testing.T, n *net.Net) {
	t.Helper()
	l := d.lits(3, n.Nodes())
	var e api.Errno
	switch d.roll(4) {
	case 0:
		_, e = n.And(l...)
	case 1:
		_, e = n.Xor(l[:2]...)
	case 2:
		_, e = n.Mux(l[0], l[1], l[2])
	case 3:
		_, e = n.Raw(l[0], l[1])
	}
	must(t, e)
}

// net is a netlist of at most so many things in which buses, registers and gates come in any order.
func (d *dice) net(t *testing.T, things int) *net.Net {
	t.Helper()
	n := made(t, theOptions()[d.roll(4)])
	for range d.roll(things + 1) {
		switch d.roll(4) {
		case 0:
			_, e := n.AddIn("i"+strconv.Itoa(len(n.In)), 1+d.roll(things))
			must(t, e)
		case 1:
			_, e := n.AddReg(d.roll(2) == 0)
			must(t, e)
		default:
			d.gate(t, n)
		}
	}
	for _, r := range n.Regs {
		l := d.lits(2, n.Nodes())
		must(t, n.SetReg(r.Q, l[0], l[1]))
	}
	for i := range d.roll(things) {
		must(t, n.AddOut("o"+strconv.Itoa(i), d.lits(1+d.roll(things), n.Nodes())...))
	}
	d.mix(n)
	must(t, n.Check())
	return n
}

// mix changes the order of buses, of their literals, and of registers, and what stands for an input.
func (d *dice) mix(n *net.Net) {
	for i := range n.In {
		k := d.roll(i + 1)
		n.In[i], n.In[k] = n.In[k], n.In[i]
		l := n.In[i].Lits
		k = d.roll(len(l))
		l[0], l[k] = l[k], l[0]
		if len(n.Regs) > 0 && d.roll(3) == 0 {
			r := &n.Regs[d.roll(len(n.Regs))]
			l[0], r.Q = r.Q, l[0]
		}
	}
	for i := range n.Regs {
		k := d.roll(i + 1)
		n.Regs[i], n.Regs[k] = n.Regs[k], n.Regs[i]
	}
}

// must fails, if there is an error.
func must(t *testing.T, e api.Errno) {
	t.Helper()
	if e != api.OK {
		t.Fatalf("error %d", e)
	}
}

// second is the error of an answer.
func second(_ lit.Lit, e api.Errno) api.Errno { return e }

// made is a new netlist.
func made(t *testing.T, o aig.Options) *net.Net {
	t.Helper()
	n, e := net.New("n", o)
	must(t, e)
	return n
}

// small is a netlist with buses a (2 4), b (6), registers 8 and 10, gates 12 and 14, and buses x (12 13), y (1).
func small(t *testing.T) *net.Net { return smallWith(t, both) }

// smallText is small's text.
const smallText = ".model n\n.input a 2 4\n.input b 6\n.latch 8 14 6 1\n.latch 10 9 1 0\n" +
	".and 12 8 2\n.and 14 12 5\n.output x 12 13\n.output y 1\n.end\n"

// smallWith is small, with these options.
func smallWith(t *testing.T, o aig.Options) *net.Net {
	t.Helper()
	n := made(t, o)
	_, e := n.AddIn("a", 2)
	must(t, e)
	_, e = n.AddIn("b", 1)
	must(t, e)
	must(t, second(n.AddReg(true)))
	must(t, second(n.AddReg(false)))
	must(t, second(n.And(2, 8)))
	must(t, second(n.And(12, 5)))
	must(t, n.SetReg(8, 14, 6))
	must(t, n.SetReg(10, 9, 1))
	must(t, n.AddOut("x", 12, 13))
	must(t, n.AddOut("y", 1))
	return n
}

// unmade are netlists that New did not make, and none.
func unmade() []*net.Net {
	return []*net.Net{nil, {}, {Name: "n"}, {Graph: &aig.Graph{}}, {Graph: &aig.Graph{}, Name: "n"},
		{In: []net.Bus{{}}, Regs: make([]net.Reg, api.MaxRegs+1), Out: []net.Bus{{Lits: []lit.Lit{99}}}}}
}

// spoiled are ways in which a netlist like small's is not well formed, and not for its inputs alone.
func spoiled() map[string]func(n *net.Net) {
	wide := make([]lit.Lit, 65)
	return map[string]func(n *net.Net){
		"no name":               func(n *net.Net) { n.Name = "" },
		"name of 81":            func(n *net.Net) { n.Name = strings.Repeat("n", 81) },
		"name with a blank":     func(n *net.Net) { n.Name = "n n" },
		"name with a newline":   func(n *net.Net) { n.Name = "n\n" },
		"in: no name":           func(n *net.Net) { n.In[0].Name = "" },
		"in: name of 81":        func(n *net.Net) { n.In[1].Name = strings.Repeat("n", 81) },
		"in: name with a dot":   func(n *net.Net) { n.In[1].Name = "a.b" },
		"in: name with a blank": func(n *net.Net) { n.In[0].Name = "a " },
		"in: name twice":        func(n *net.Net) { n.In[1].Name = "a" },
		"in: none":              func(n *net.Net) { n.In[0].Lits = nil },
		"in: a bus of none":     func(n *net.Net) { n.In = append(n.In, net.Bus{Name: "c"}) },
		"in: 65":                func(n *net.Net) { n.In[0].Lits = wide },
		"in: turned":            func(n *net.Net) { n.In[0].Lits[1] = 5 },
		"in: False":             func(n *net.Net) { n.In[0].Lits[1] = 0 },
		"in: True":              func(n *net.Net) { n.In[0].Lits[1] = 1 },
		"in: a gate":            func(n *net.Net) { n.In[0].Lits[1] = 12 },
		"in: twice in a bus":    func(n *net.Net) { n.In[0].Lits[1] = 2 },
		"in: in two buses":      func(n *net.Net) { n.In[1].Lits[0] = 4 },
		"in: a Q":               func(n *net.Net) { n.In[0].Lits[1] = 8 },
		"in: no node":           func(n *net.Net) { n.In[0].Lits[1] = 16 },
		"in: a great literal":   func(n *net.Net) { n.In[0].Lits[1] = math.MaxUint32 - 1 },
		"out: no name":          func(n *net.Net) { n.Out[0].Name = "" },
		"out: name of 81":       func(n *net.Net) { n.Out[1].Name = strings.Repeat("n", 81) },
		"out: name with a sign": func(n *net.Net) { n.Out[1].Name = "a#" },
		"out: name twice":       func(n *net.Net) { n.Out[1].Name = "x" },
		"out: none":             func(n *net.Net) { n.Out[0].Lits = nil },
		"out: 65":               func(n *net.Net) { n.Out[1].Lits = wide },
		"out: no node":          func(n *net.Net) { n.Out[1].Lits[0] = 16 },
		"out: no node, turned":  func(n *net.Net) { n.Out[1].Lits[0] = 17 },
		"out: a great literal":  func(n *net.Net) { n.Out[1].Lits[0] = math.MaxUint32 },
		"Q: turned":             func(n *net.Net) { n.Regs[0].Q = 9 },
		"Q: False":              func(n *net.Net) { n.Regs[0].Q = 0 },
		"Q: a gate":             func(n *net.Net) { n.Regs[0].Q = 14 },
		"Q: twice":              func(n *net.Net) { n.Regs[1].Q = 8 },
		"Q: in a bus":           func(n *net.Net) { n.Regs[0].Q = 2 },
		"Q: no node":            func(n *net.Net) { n.Regs[1].Q = 16 },
		"D: no node":            func(n *net.Net) { n.Regs[0].D = 16 },
		"En: no node":           func(n *net.Net) { n.Regs[1].En = 17 },
		"a register twice":      func(n *net.Net) { n.Regs = append(n.Regs, n.Regs[0]) },
		"registers too many":    func(n *net.Net) { n.Regs = make([]net.Reg, api.MaxRegs+1) },
		"another graph":         func(n *net.Net) { n.Graph = aig.New(both) },
	}
}

// open are ways in which nothing but an input of a netlist like small's is wrong: nothing has it.
func open(t *testing.T) map[string]func(n *net.Net) {
	return map[string]func(n *net.Net){
		"a new input":         func(n *net.Net) { must(t, second(n.Input())) },
		"a bus less":          func(n *net.Net) { n.In = n.In[:1] },
		"a literal less":      func(n *net.Net) { n.In[0].Lits = n.In[0].Lits[:1] },
		"a register less":     func(n *net.Net) { n.Regs = n.Regs[:1] },
		"nothing but a graph": func(n *net.Net) { n.In, n.Regs, n.Out = nil, nil, nil },
	}
}

// refusal is a netlist that Check tells an error of, and that error.
type refusal struct {
	n *net.Net
	e api.Errno
}

// refused are such netlists, by what is wrong of them.
func refused(t *testing.T) map[string]refusal {
	t.Helper()
	all := map[string]refusal{}
	put := func(what string, n *net.Net, e api.Errno) {
		if n.Check() != e {
			t.Fatalf("%s: Check tells %d, not %d", what, n.Check(), e)
		}
		all[what] = refusal{n, e}
	}
	for i, n := range unmade() {
		put("unmade "+strconv.Itoa(i), n, api.ErrNil)
	}
	for what, spoil := range spoiled() {
		n := small(t)
		spoil(n)
		put(what, n, api.ErrArg)
		n = small(t)
		spoil(n)
		n.In = slices.DeleteFunc(n.In, func(b net.Bus) bool { return b.Name == "b" && slices.Equal(b.Lits, []lit.Lit{6}) })
		put(what+", and an input that nothing has", n, api.ErrArg)
	}
	for what, spoil := range open(t) {
		n := small(t)
		spoil(n)
		put(what, n, api.ErrUndriven)
	}
	return all
}

// changes are things that make a netlist like small's another one that is well formed, one by one.
func changes(t *testing.T) map[string]func(n *net.Net) {
	return map[string]func(n *net.Net){
		"nothing":         func(n *net.Net) {},
		"name":            func(n *net.Net) { n.Name = "m" },
		"long name":       func(n *net.Net) { n.Name = strings.Repeat("n", 80) },
		"great name":      func(n *net.Net) { n.Name = "N" },
		"gate":            func(n *net.Net) { must(t, second(n.Raw(2, 4))) },
		"gate, turned":    func(n *net.Net) { must(t, second(n.Raw(3, 4))) },
		"gate twice":      func(n *net.Net) { must(t, second(n.Raw(8, 2))) },
		"gate of False":   func(n *net.Net) { must(t, second(n.Raw(0, 2))) },
		"gate of True":    func(n *net.Net) { must(t, second(n.Raw(2, 1))) },
		"other gate":      func(n *net.Net) { n.Graph = grown(t, both, 3, 8, 12, 5) },
		"other gate, 2nd": func(n *net.Net) { n.Graph = grown(t, both, 2, 8, 12, 4) },
		"gate of others":  func(n *net.Net) { n.Graph = grown(t, both, 2, 8, 10, 5) },
		"bus in":          func(n *net.Net) { _, e := n.AddIn("c", 1); must(t, e) },
		"wide bus in":     func(n *net.Net) { _, e := n.AddIn("c", 64); must(t, e) },
		"buses in as one": func(n *net.Net) { n.In = []net.Bus{{Name: "a", Lits: []lit.Lit{2, 4, 6}}} },
		"literal moved": func(n *net.Net) {
			n.In = []net.Bus{{Name: "a", Lits: []lit.Lit{2}}, {Name: "b", Lits: []lit.Lit{4, 6}}}
		},
		"name in":        func(n *net.Net) { n.In[1].Name = "c" },
		"names in":       func(n *net.Net) { n.In[0].Name, n.In[1].Name = "b", "a" },
		"literals in":    func(n *net.Net) { n.In[0].Lits[0], n.In[0].Lits[1] = 4, 2 },
		"order in":       func(n *net.Net) { n.In[0], n.In[1] = n.In[1], n.In[0] },
		"Q in a bus":     func(n *net.Net) { n.In[1].Lits[0], n.Regs[0].Q = 8, 6 },
		"bus out":        func(n *net.Net) { must(t, n.AddOut("z", 0)) },
		"bus out of In":  func(n *net.Net) { must(t, n.AddOut("a", 2, 4)) },
		"bus out less":   func(n *net.Net) { n.Out = n.Out[:1] },
		"name out":       func(n *net.Net) { n.Out[1].Name = "Y" },
		"literal out":    func(n *net.Net) { n.Out[1].Lits[0] = 0 },
		"literal turned": func(n *net.Net) { n.Out[0].Lits[1] = 12 },
		"literals out":   func(n *net.Net) { n.Out[0].Lits = append(n.Out[0].Lits, 1) },
		"order out":      func(n *net.Net) { n.Out[0], n.Out[1] = n.Out[1], n.Out[0] },
		"register":       func(n *net.Net) { must(t, second(n.AddReg(false))) },
		"register of 1":  func(n *net.Net) { must(t, second(n.AddReg(true))) },
		"Qs":             func(n *net.Net) { n.Regs[0].Q, n.Regs[1].Q = 10, 8 },
		"D":              func(n *net.Net) { n.Regs[0].D = 15 },
		"D of another":   func(n *net.Net) { n.Regs[1].D = 10 },
		"En":             func(n *net.Net) { n.Regs[0].En = 7 },
		"D and En":       func(n *net.Net) { n.Regs[0].D, n.Regs[0].En = 6, 14 },
		"begins with 1":  func(n *net.Net) { n.Regs[1].Init = true },
		"begins with 0":  func(n *net.Net) { n.Regs[0].Init = false },
		"order of Regs":  func(n *net.Net) { n.Regs[0], n.Regs[1] = n.Regs[1], n.Regs[0] },
	}
}

// grown is a graph of five inputs, and of two gates of these literals.
func grown(t *testing.T, o aig.Options, a, b, c, d lit.Lit) *aig.Graph {
	t.Helper()
	g := aig.New(o)
	for range 5 {
		must(t, second(g.Input()))
	}
	must(t, second(g.Raw(a, b)))
	must(t, second(g.Raw(c, d)))
	return g
}

// written is n's text, as the document tells it.
func written(n *net.Net) string {
	var text strings.Builder
	bus := func(first string, b net.Bus) {
		fmt.Fprintf(&text, "%s %s", first, b.Name)
		for _, l := range b.Lits {
			fmt.Fprintf(&text, " %d", l)
		}
		fmt.Fprintln(&text)
	}
	fmt.Fprintf(&text, ".model %s\n", n.Name)
	for _, b := range n.In {
		bus(".input", b)
	}
	for _, r := range n.Regs {
		fmt.Fprintf(&text, ".latch %d %d %d %d\n", r.Q, r.D, r.En, map[bool]int{true: 1}[r.Init])
	}
	for node := range n.Nodes() {
		if a, b, is := n.Gate(node); is {
			fmt.Fprintf(&text, ".and %d %d %d\n", 2*node, a, b)
		}
	}
	for _, b := range n.Out {
		bus(".output", b)
	}
	return text.String() + ".end\n"
}

// back is the netlist whose text this is; its graph has these options.
func back(t *testing.T, text string, o aig.Options) *net.Net {
	t.Helper()
	n := &net.Net{Graph: aig.New(o)}
	gates := map[int][]lit.Lit{}
	drives := 0
	for _, line := range strings.Split(strings.TrimSuffix(text, "\n"), "\n") {
		words := strings.Split(line, " ")
		switch words[0] {
		case ".model":
			n.Name = words[1]
		case ".input":
			n.In = append(n.In, net.Bus{Name: words[1], Lits: numbers(t, words[2:])})
			drives += len(words) - 2
		case ".latch":
			l := numbers(t, words[1:])
			n.Regs = append(n.Regs, net.Reg{Q: l[0], D: l[1], En: l[2], Init: l[3] == 1})
			drives++
		case ".and":
			l := numbers(t, words[1:])
			gates[l[0].Node()] = l[1:]
			drives++
		case ".output":
			n.Out = append(n.Out, net.Bus{Name: words[1], Lits: numbers(t, words[2:])})
		}
	}
	for node := 1; node <= drives; node++ {
		if l, is := gates[node]; is {
			must(t, second(n.Raw(l[0], l[1])))
		} else {
			must(t, second(n.Input()))
		}
	}
	return n
}

// numbers is the literals that these words are.
func numbers(t *testing.T, words []string) []lit.Lit {
	t.Helper()
	l := make([]lit.Lit, len(words))
	for i, w := range words {
		n, e := strconv.ParseUint(w, 10, 32)
		if e != nil {
			t.Fatal(e)
		}
		l[i] = lit.Lit(n)
	}
	return l
}

// key tells all of n but its graph's options.
func key(n *net.Net) string {
	var nodes []string
	for node := range n.Nodes() {
		a, b, is := n.Gate(node)
		nodes = append(nodes, fmt.Sprint(a, b, is))
	}
	return fmt.Sprintf("%q %v %v %v %q", n.Name, n.In, n.Regs, n.Out, nodes)
}

// text is what All tells, where no error may be.
func text(t *testing.T, n *net.Net) string {
	t.Helper()
	b, e := emit.All(n)
	if e != api.OK {
		t.Fatalf("All tells error %d", e)
	}
	return string(b)
}

// wantText holds what All, Size and Lines tell of n.
func wantText(t *testing.T, what string, n *net.Net, want string) {
	t.Helper()
	b, e := emit.All(n)
	if e != api.OK || string(b) != want {
		t.Errorf("%s: All tells %.400q, error %d, not %.400q", what, b, e, want)
	}
	wantSize(t, what, n, len(want))
	if got := slices.Collect(emit.Lines(n)); !slices.Equal(got, cut(want)) {
		t.Errorf("%s: Lines tells %.10q, not those of %.400q", what, got, want)
	}
}

// wantSize holds what Size tells of n, where no error may be.
func wantSize(t *testing.T, what string, n *net.Net, want int) {
	t.Helper()
	if size, e := emit.Size(n); e != api.OK || size != want {
		t.Errorf("%s: Size tells %d, error %d, not %d", what, size, e, want)
	}
}

// wantRefused holds that All and Size tell the error e of n, and Lines nothing.
func wantRefused(t *testing.T, what string, n *net.Net, e api.Errno) {
	t.Helper()
	if b, is := emit.All(n); is != e || len(b) != 0 {
		t.Errorf("%s: All tells %.200q, error %d, not %d", what, b, is, e)
	}
	if size, is := emit.Size(n); is != e || size != 0 {
		t.Errorf("%s: Size tells %d, error %d, not %d", what, size, is, e)
	}
	wantNone(t, what, emit.Lines(n))
}

// wantNone holds that lines has none.
func wantNone(t *testing.T, what string, lines func(yield func(line string) bool)) {
	t.Helper()
	for line := range lines {
		t.Errorf("%s: there is a line %q", what, line)
		break
	}
}

// cut is the lines of a text, without their newlines.
func cut(text string) []string { return strings.Split(strings.TrimSuffix(text, "\n"), "\n") }
