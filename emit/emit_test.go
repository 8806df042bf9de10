package emit_test

import (
	"fmt"
	"regexp"
	"slices"
	"strings"
	"testing"

	"orrery/aig"
	"orrery/api"
	"orrery/emit"
	"orrery/lit"
	"orrery/net"
)

// The chapter's example, and one of each kind of line, under all options.
func TestExamples(t *testing.T) {
	for _, o := range theOptions() {
		n, e := net.New("top", o)
		must(t, e)
		_, e = n.AddIn("a", 2)
		must(t, e)
		must(t, second(n.AddReg(true)))
		must(t, second(n.And(2, 6)))
		must(t, n.SetReg(6, 8, 1))
		must(t, n.AddOut("x", 9))
		wantText(t, "the example", n, ".model top\n.input a 2 4\n.latch 6 8 1 1\n.and 8 6 2\n.output x 9\n.end\n")
		wantText(t, "small", smallWith(t, o), smallText)
	}
}

// P10.1, P10.2: netlists in which there is nothing of a kind, and of all kinds.
func TestNothing(t *testing.T) {
	for _, o := range theOptions() {
		wantText(t, "nothing", made(t, o), ".model n\n.end\n")
	}
	n := made(t, both)
	n.In, n.Regs, n.Out = []net.Bus{}, []net.Reg{}, []net.Bus{}
	wantText(t, "empty lists", n, ".model n\n.end\n")
	for what, x := range map[string]struct {
		change func(n *net.Net)
		want   string
	}{
		"no bus in": {
			func(n *net.Net) { must(t, second(n.AddReg(false))); must(t, n.AddOut("x", 2)) },
			".model n\n.latch 2 0 0 0\n.output x 2\n.end\n",
		},
		"no register": {
			func(n *net.Net) {
				_, _ = n.AddIn("a", 1)
				must(t, second(n.Raw(2, 3)))
				must(t, n.AddOut("x", 4))
			},
			".model n\n.input a 2\n.and 4 3 2\n.output x 4\n.end\n",
		},
		"no gate": {
			func(n *net.Net) { _, _ = n.AddIn("a", 1); must(t, n.AddOut("x", 3)) },
			".model n\n.input a 2\n.output x 3\n.end\n",
		},
		"no bus out": {
			func(n *net.Net) { _, _ = n.AddIn("a", 1); must(t, second(n.Raw(2, 2))) },
			".model n\n.input a 2\n.and 4 2 2\n.end\n",
		},
		"a bus in alone":   {func(n *net.Net) { _, _ = n.AddIn("a", 1) }, ".model n\n.input a 2\n.end\n"},
		"a register alone": {func(n *net.Net) { must(t, second(n.AddReg(true))) }, ".model n\n.latch 2 0 0 1\n.end\n"},
		"a gate alone":     {func(n *net.Net) { must(t, second(n.Raw(0, 1))) }, ".model n\n.and 2 1 0\n.end\n"},
		"a bus out alone":  {func(n *net.Net) { must(t, n.AddOut("x", 1)) }, ".model n\n.output x 1\n.end\n"},
	} {
		n := made(t, both)
		x.change(n)
		wantText(t, what, n, x.want)
	}
}

// P10.1: buses of one literal and of many, of turned literals and of constants, out of the order of the inputs.
func TestBuses(t *testing.T) {
	for _, width := range []int{1, 2, 3, 9, 63, 64} {
		n := made(t, both)
		l, e := n.AddIn("a", width)
		must(t, e)
		row := func(l []lit.Lit) string { return strings.Trim(fmt.Sprint(l), "[]") }
		must(t, n.AddOut("same", l...))
		must(t, n.AddOut("turned", lit.Turn(l...)...))
		must(t, n.AddOut("zeros", lit.Const(0, width)...))
		must(t, n.AddOut("ones", lit.Const(1<<64-1, width)...))
		must(t, n.AddOut("one", slices.Repeat(l[:1], width)...))
		back := slices.Clone(l)
		slices.Reverse(back)
		n.In[0].Lits = back
		wantText(t, fmt.Sprint(width), n, fmt.Sprintf(".model n\n.input a %s\n.output same %s\n.output turned %s\n.output zeros %s\n.output ones %s\n.output one %s\n.end\n",
			row(back), row(l), row(lit.Turn(l...)), row(lit.Const(0, width)), row(lit.Const(1<<64-1, width)), row(slices.Repeat(l[:1], width))))
	}
}

// P10.1: names of each sign, and of the most bytes; one name of the netlist, a bus that comes in, and one that goes out.
func TestNames(t *testing.T) {
	const spelt = "abcdefghijklmnopqrstuvwxyzABCDEFGHIJKLMNOPQRSTUVWXYZ0123456789_@?"
	names := []string{strings.Repeat("x", 80), spelt, "input", "end", "0", "007", "a@1", "a?", "model"}
	for _, name := range append(names, strings.Split(spelt, "")...) {
		n, e := net.New(name, both)
		must(t, e)
		_, e = n.AddIn(name, 1)
		must(t, e)
		must(t, n.AddOut(name, 2))
		wantText(t, name, n, ".model "+name+"\n.input "+name+" 2\n.output "+name+" 2\n.end\n")
	}
}

// P10.1: registers that begin with 0 and with 1, by each D and each En, with Qs in any order.
func TestRegs(t *testing.T) {
	n := small(t)
	for d := range lit.Lit(2 * n.Nodes()) {
		for en := range lit.Lit(2 * n.Nodes()) {
			for _, init := range []bool{false, true} {
				begin := map[bool]int{true: 1}[init]
				m := n.Copy()
				must(t, m.SetReg(10, d, en))
				m.Regs[1].Init = init
				want := strings.Replace(smallText, ".latch 10 9 1 0", fmt.Sprintf(".latch 10 %d %d %d", d, en, begin), 1)
				wantText(t, "a register", m, want)
				m.Regs[0], m.Regs[1] = m.Regs[1], m.Regs[0]
				want = strings.Replace(want, ".latch 8 14 6 1\n", "", 1)
				want = strings.Replace(want, ".and 12", ".latch 8 14 6 1\n.and 12", 1)
				wantText(t, "registers the other way round", m, want)
			}
		}
	}
}

// P10.1, P10.5: a gate of each two literals of inputs, registers, gates and the constant, turned or not: the greater one comes first.
func TestGates(t *testing.T) {
	n := small(t)
	for a := range lit.Lit(2 * n.Nodes()) {
		for b := range lit.Lit(2 * n.Nodes()) {
			m := n.Copy()
			must(t, second(m.Raw(a, b)))
			want := strings.Replace(smallText, ".output x", fmt.Sprintf(".and 16 %d %d\n.output x", max(a, b), min(a, b)), 1)
			wantText(t, "a gate", m, want)
		}
	}
}

// P10.1: inputs, registers and gates of a graph in any order are told by their kinds.
func TestOrder(t *testing.T) {
	n := made(t, aig.Options{})
	must(t, second(n.Raw(1, 1)))
	must(t, second(n.AddReg(true)))
	must(t, second(n.And(2, 4)))
	_, e := n.AddIn("b", 1)
	must(t, e)
	must(t, second(n.And(8, 7)))
	must(t, second(n.AddReg(false)))
	_, e = n.AddIn("a", 2)
	must(t, e)
	must(t, second(n.Raw(17, 11)))
	must(t, n.AddOut("z", 18, 2))
	must(t, n.AddOut("y", 6))
	n.In[0], n.In[1] = n.In[1], n.In[0]
	n.Regs[0], n.Regs[1] = n.Regs[1], n.Regs[0]
	wantText(t, "any order", n, ".model n\n.input a 14 16\n.input b 8\n.latch 12 0 0 0\n.latch 4 0 0 1\n"+
		".and 2 1 1\n.and 6 4 2\n.and 10 8 7\n.and 18 17 11\n.output z 18 2\n.output y 6\n.end\n")
}

// P10.1: netlists that Check tells an error of, of each kind; nothing is told beside the error, and nothing of them changes.
func TestRefused(t *testing.T) {
	for what, x := range refused(t) {
		had := ""
		if x.n != nil {
			had = key(x.n)
		}
		wantRefused(t, what, x.n, x.e)
		if x.n != nil && key(x.n) != had {
			t.Errorf("%s: the netlist is changed", what)
		}
	}
}

// sized is a netlist whose text has so many bytes (of at least 1000), by buses that go out.
func sized(t *testing.T, size int) *net.Net {
	t.Helper()
	const widest = len(".output ") + 80 + 2*64 + 1
	n := made(t, both)
	left := size - len(".model n\n.end\n")
	zeros := make([]lit.Lit, 64)
	for i := 0; left >= 2*widest; i++ {
		n.Out = append(n.Out, net.Bus{Name: fmt.Sprintf("_%079d", i), Lits: zeros})
		left -= widest
	}
	for i, bytes := range []int{left / 2, left - left/2} {
		wide := min(64, (bytes-len(".output "))/2-1)
		name := strings.Repeat(string("ab"[i]), bytes-len(".output ")-2*wide-1)
		must(t, n.AddOut(name, zeros[:wide]...))
	}
	must(t, n.Check())
	return n
}

// P10.1: texts of up to MaxText bytes are told, longer ones are not, but their size is, and their lines are.
func TestLong(t *testing.T) {
	for _, size := range []int{1000, 1001, 1216, 1217, 4321, api.MaxText - 1, api.MaxText, api.MaxText + 1,
		api.MaxText + len(".end\n"), api.MaxText + len(".end\n") + 1, 2*api.MaxText + 7} {
		what := fmt.Sprintf("a text of %d bytes", size)
		n := sized(t, size)
		wantSize(t, what, n, size)
		b, e := emit.All(n)
		if size > api.MaxText {
			if e != api.ErrLong || len(b) != 0 {
				t.Errorf("%s: All tells %d bytes, error %d", what, len(b), e)
			}
		} else if e != api.OK || len(b) != size || !strings.HasSuffix(string(b), " 0\n.end\n") {
			t.Errorf("%s: All tells %d bytes, error %d", what, len(b), e)
		}
		count, bytes := 0, 0
		for line := range emit.Lines(n) {
			count, bytes = count+1, bytes+len(line)+1
		}
		if count != len(n.Out)+2 || bytes != size {
			t.Errorf("%s: Lines tells %d lines of %d bytes", what, count, bytes)
		}
		for range emit.Lines(n) {
			break
		}
	}
}

// P10.1: a text of the most bytes is told whole.
func TestLongest(t *testing.T) {
	n := sized(t, api.MaxText)
	if text(t, n) != written(n) {
		t.Error("the longest text is not the netlist's")
	}
}

// P10.1: buses that come in may make a text too long, too.
func TestLongIn(t *testing.T) {
	n := made(t, both)
	for i := range 180000 {
		l, e := n.Input()
		must(t, e)
		n.In = append(n.In, net.Bus{Name: fmt.Sprintf("_%079d", i), Lits: []lit.Lit{l}})
	}
	size := 0
	for line := range emit.Lines(n) {
		size += len(line) + 1
	}
	if size <= api.MaxText {
		t.Fatalf("the text has %d bytes", size)
	}
	wantSize(t, "buses that come in", n, size)
	if b, e := emit.All(n); e != api.ErrLong || len(b) != 0 {
		t.Errorf("All tells %d bytes, error %d", len(b), e)
	}
}

// P10.1: Check's error comes ahead of ErrLong.
func TestErrorsOrder(t *testing.T) {
	for what, x := range map[string]struct {
		spoil func(n *net.Net)
		e     api.Errno
	}{
		"no graph":             {func(n *net.Net) { n.Graph = nil }, api.ErrNil},
		"an unmade graph":      {func(n *net.Net) { n.Graph = &aig.Graph{} }, api.ErrNil},
		"no name":              {func(n *net.Net) { n.Name = "" }, api.ErrArg},
		"a name twice":         {func(n *net.Net) { n.Out[len(n.Out)-1].Name = n.Out[0].Name }, api.ErrArg},
		"no node, at the end":  {func(n *net.Net) { n.Out[len(n.Out)-1].Lits = []lit.Lit{2} }, api.ErrArg},
		"a wide bus, far away": {func(n *net.Net) { n.Out[len(n.Out)-1].Lits = make([]lit.Lit, 65) }, api.ErrArg},
		"an input for nothing": {func(n *net.Net) { must(t, second(n.Input())) }, api.ErrUndriven},
	} {
		n := sized(t, api.MaxText+1)
		x.spoil(n)
		wantRefused(t, "too long, and "+what, n, x.e)
	}
}

// P10.1, P10.2: as many inputs, registers and gates as a graph may have.
func TestFull(t *testing.T) {
	n := made(t, aig.Options{})
	for range api.MaxRegs {
		must(t, second(n.AddReg(true)))
	}
	last := lit.Lit(2)
	for range api.MaxGates {
		l, e := n.Raw(last, 5)
		must(t, e)
		last = l
	}
	if e := second(n.Raw(0, 0)); e != api.ErrFull {
		t.Fatalf("one gate more: error %d", e)
	}
	must(t, n.SetReg(2*api.MaxRegs, last, last.Not()))
	must(t, n.AddOut("x", last.Not()))
	wantText(t, "a full graph", n, written(n))
	n = made(t, aig.Options{})
	for i := range (api.MaxRegs + api.MaxGates) / 64 {
		_, e := n.AddIn(fmt.Sprint("i", i), 64)
		must(t, e)
	}
	wantText(t, "a graph full of inputs", n, written(n))
}

// P10.2: lines are told until yield tells false, and none behind that.
func TestLinesPart(t *testing.T) {
	for what, n := range map[string]*net.Net{"small": small(t), "nothing": made(t, both), "many": sized(t, 4321)} {
		all := cut(text(t, n))
		for stop := range all {
			var got []string
			emit.Lines(n)(func(line string) bool {
				got = append(got, line)
				return len(got) <= stop
			})
			if !slices.Equal(got, all[:stop+1]) {
				t.Errorf("%s: false at line %d: %q", what, stop, got)
			}
			got = nil
			for line := range emit.Lines(n) {
				got = append(got, line)
				if len(got) > stop {
					break
				}
			}
			if !slices.Equal(got, all[:stop+1]) {
				t.Errorf("%s: left at line %d: %q", what, stop, got)
			}
		}
	}
}

// P10.2: one row of lines may be gone through again, also behind a part of it, and within itself.
func TestLinesAgain(t *testing.T) {
	lines, all := emit.Lines(small(t)), cut(smallText)
	for range lines {
		break
	}
	count := 0
	for line := range lines {
		if line != all[count] {
			t.Errorf("line %d: %q", count, line)
		}
		count++
		if got := slices.Collect(lines); !slices.Equal(got, all) {
			t.Errorf("within line %d: %q", count, got)
		}
	}
	if count != len(all) {
		t.Errorf("%d lines", count)
	}
}

// P10.2: no yield is no lines; what yield panics with goes through.
func TestLinesYield(t *testing.T) {
	emit.Lines(small(t))(nil)
	emit.Lines(nil)(nil)
	defer func() {
		if got := recover(); got != "enough" {
			t.Error(got)
		}
	}()
	for range emit.Lines(small(t)) {
		panic("enough")
	}
}

// P10.2: lines are those of the netlist as it was handed in, whatever becomes of it.
func TestLinesApart(t *testing.T) {
	all := cut(smallText)
	ways := changes(t)
	for what, spoil := range spoiled() {
		ways["spoiled: "+what] = spoil
	}
	for what, spoil := range open(t) {
		ways["open: "+what] = spoil
	}
	ways["no graph"] = func(n *net.Net) { n.Graph = nil }
	ways["nothing at all"] = func(n *net.Net) { *n = net.Net{} }
	for what, change := range ways {
		n := small(t)
		lines := emit.Lines(n)
		change(n)
		if got := slices.Collect(lines); !slices.Equal(got, all) {
			t.Errorf("%s, ahead of the first line: %q", what, got)
		}
		n = small(t)
		var got []string
		for line := range emit.Lines(n) {
			if len(got) == 0 {
				change(n)
			}
			got = append(got, line)
		}
		if !slices.Equal(got, all) {
			t.Errorf("%s, at the first line: %q", what, got)
		}
	}
	n := small(t)
	n.Name = ""
	lines := emit.Lines(n)
	n.Name = "n"
	wantNone(t, "mended later", lines)
}

// P10.1 to P10.5: what is handed in stays, and what is told is new memory.
func TestStays(t *testing.T) {
	for _, o := range theOptions() {
		n := smallWith(t, o)
		first, e := emit.All(n)
		must(t, e)
		wantSize(t, "small", n, len(first))
		lines := slices.Collect(emit.Lines(n))
		if !net.Same(n, smallWith(t, o)) || n.Check() != api.OK {
			t.Error("the netlist is changed")
		}
		first = first[:cap(first)]
		for i := range first {
			first[i] = '#'
		}
		if text(t, n) != smallText || !net.Same(n, smallWith(t, o)) || !slices.Equal(lines, cut(smallText)) {
			t.Error("All's text shares memory")
		}
	}
}

// P10.1, P10.2: many netlists' texts are as the document tells them, and lie in its form.
func TestAsTold(t *testing.T) {
	const number = ` (0|[1-9][0-9]*)`
	form := regexp.MustCompile(`^\.model [A-Za-z0-9_@?]{1,80}\n(\.input [A-Za-z0-9_@?]{1,80}(` + number + `){1,64}\n)*(\.latch(` + number + `){3} [01]\n)*(\.and(` + number +
		`){3}\n)*(\.output [A-Za-z0-9_@?]{1,80}(` + number + `){1,64}\n)*\.end\n$`)
	for seed := range 2000 {
		d := dice(seed)
		n := d.net(t, 12)
		had := n.Copy()
		wantText(t, fmt.Sprint("seed ", seed), n, written(n))
		if got := text(t, n); !form.MatchString(got) {
			t.Errorf("seed %d: no text's form: %q", seed, got)
		}
		if !net.Same(n, had) {
			t.Errorf("seed %d: the netlist is changed", seed)
		}
	}
}

// P10.3: a text tells all of a netlist but the options.
func TestBack(t *testing.T) {
	for seed := range 2000 {
		d := dice(seed)
		n := d.net(t, 12)
		if m := back(t, text(t, n), n.Options()); !net.Same(n, m) {
			t.Errorf("seed %d: %q is back as %q", seed, text(t, n), text(t, m))
		}
	}
}

// P10.3: netlists that differ in one thing alone have different texts, under all options; those that differ in options alone have the same.
func TestChanges(t *testing.T) {
	texts := map[string]string{}
	for what, change := range changes(t) {
		told := ""
		for _, o := range theOptions() {
			n := smallWith(t, o)
			change(n)
			must(t, n.Check())
			got := text(t, n)
			if told != "" && got != told {
				t.Errorf("%s: other options, another text: %q, %q", what, told, got)
			}
			told = got
			wantText(t, what, n, written(n))
		}
		if other, is := texts[told]; is {
			t.Errorf("one text for %q and %q: %q", what, other, told)
		}
		texts[told] = what
	}
	if texts[smallText] != "nothing" {
		t.Error("small has no text, or another one has it")
	}
}

// P10.3: of many little netlists, of which some are the same, each two have the same text just if they are the same but for the options.
func TestOneToOne(t *testing.T) {
	keys, texts := map[string]string{}, map[string]string{}
	twice := 0
	for seed := range 20000 {
		d := dice(seed)
		n := d.net(t, 2)
		is, told := key(n), text(t, n)
		if other, there := keys[told]; there && other != is {
			t.Errorf("seed %d: one text for %s and %s: %q", seed, is, other, told)
		}
		if other, there := texts[is]; there {
			twice++
			if other != told {
				t.Errorf("seed %d: two texts for %s: %q, %q", seed, is, told, other)
			}
		}
		keys[told], texts[is] = is, told
	}
	if twice < 1000 || len(texts) < 1000 {
		t.Errorf("%d are there twice, %d differ", twice, len(texts))
	}
}

// P10.4, P10.5: each node above 0 is driven by just one line, and each gate's number is above those of its two.
func TestDriven(t *testing.T) {
	for seed := range 2000 {
		d := dice(seed)
		n := d.net(t, 12)
		driven := make([]int, n.Nodes())
		last := lit.Lit(0)
		for line := range emit.Lines(n) {
			words := strings.Split(line, " ")
			var drives []lit.Lit
			switch words[0] {
			case ".input":
				drives = numbers(t, words[2:])
			case ".latch":
				drives = numbers(t, words[1:2])
			case ".and":
				l := numbers(t, words[1:])
				drives = l[:1]
				if l[0].Node() <= l[1].Node() || l[0].Node() <= l[2].Node() || l[0] <= last {
					t.Errorf("seed %d: %q behind %d", seed, line, last)
				}
				last = l[0]
			}
			for _, l := range drives {
				if l.Turned() || l.Node() == 0 || l.Node() >= len(driven) {
					t.Fatalf("seed %d: %q drives %d", seed, line, l)
				}
				driven[l.Node()]++
			}
		}
		for node, count := range driven[1:] {
			if count != 1 {
				t.Errorf("seed %d: node %d is driven by %d lines", seed, node+1, count)
			}
		}
	}
}
