package read_test

import (
	"fmt"
	"math/big"
	"slices"
	"strconv"
	"strings"
	"testing"

	"orrery/aig"
	"orrery/api"
	"orrery/emit"
	"orrery/lit"
	"orrery/net"
	"orrery/read"
	"orrery/sim"
)

// both are the settings that make nothing twice.
var both = aig.Options{Fold: true, Hash: true}

// theOptions are all four settings.
func theOptions() []aig.Options {
	return []aig.Options{{}, {Fold: true}, {Hash: true}, both}
}

// dice tells the same numbers in each run.
type dice uint64

// roll is a number below n.
func (d *dice) roll(n int) int {
	*d = *d*6364136223846793005 + 1442695040888963407
	return int(uint64(*d) >> 33 % uint64(n))
}

// word is any 64 bits.
func (d *dice) word() uint64 {
	return uint64(d.roll(1<<31))<<40 ^ uint64(d.roll(1<<31))<<20 ^ uint64(d.roll(1<<31))
}

// shuffle is the same in another order.
func shuffle[T any](d *dice, l []T) []T {
	l = slices.Clone(l)
	for i := range l {
		k := d.roll(i + 1)
		l[i], l[k] = l[k], l[i]
	}
	return l
}

// lits is so many literals of a graph of so many nodes.
func (d *dice) lits(n, nodes int) []lit.Lit {
	l := make([]lit.Lit, n)
	for i := range l {
		l[i] = lit.Lit(d.roll(2 * nodes))
	}
	return l
}

// net is a netlist of at most so many things in which buses, registers and gates come in any order, or, if tidy, in just that one.
func (d *dice) net(t *testing.T, things int, o aig.Options, tidy bool) *net.Net {
	t.Helper()
	n, e := net.New("n"+strconv.Itoa(d.roll(9)), o)
	must(t, e)
	kinds := make([]int, d.roll(things+1))
	for i := range kinds {
		kinds[i] = d.roll(4)
	}
	if tidy {
		slices.Sort(kinds)
	}
	for i, kind := range kinds {
		switch kind {
		case 0:
			_, e = n.AddIn("i"+strconv.Itoa(i), 1+d.roll(things))
		case 1:
			_, e = n.AddReg(d.roll(2) == 0)
		case 2:
			_, e = n.Raw(d.lits(1, n.Nodes())[0], d.lits(1, n.Nodes())[0])
		case 3:
			_, e = n.Xor(d.lits(2, n.Nodes())...)
		}
		must(t, e)
	}
	for _, r := range n.Regs {
		l := d.lits(2, n.Nodes())
		must(t, n.SetReg(r.Q, l[0], l[1]))
	}
	for i := range d.roll(things) {
		must(t, n.AddOut("o"+strconv.Itoa(i), d.lits(1+d.roll(things), n.Nodes())...))
	}
	if !tidy {
		n.In, n.Regs = shuffle(d, n.In), shuffle(d, n.Regs)
		for i, b := range n.In {
			n.In[i].Lits = shuffle(d, b.Lits)
		}
	}
	must(t, n.Check())
	return n
}

// must fails, if there is an error.
func must(t *testing.T, e api.Errno) {
	t.Helper()
	if e != api.OK {
		t.Fatalf("error %d", e)
	}
}

// made is a new netlist of that name, with these options.
func made(t *testing.T, name string, o aig.Options) *net.Net {
	t.Helper()
	n, e := net.New(name, o)
	must(t, e)
	return n
}

// emitted is n's text.
func emitted(t *testing.T, n *net.Net) string {
	t.Helper()
	b, e := emit.All(n)
	must(t, e)
	return string(b)
}

// text is a text of these lines.
func text(lines ...string) string { return strings.Join(lines, "\n") + "\n" }

// whole is a text of these lines between .model and .end.
func whole(lines ...string) string {
	return ".model m\n" + strings.Join(append(lines, ".end"), "\n") + "\n"
}

// place is the first byte of the i-th line of whole; line 0 is .model.
func place(i int, lines ...string) int {
	at := 0
	for _, l := range append([]string{".model m"}, lines...)[:i] {
		at += len(l) + 1
	}
	return at
}

// middle is the lines between a text's first and last one.
func middle(text string) []string {
	l := strings.Split(text, "\n")
	return l[1 : len(l)-2]
}

// isName tells whether a bus may have this name.
func isName(s string) bool {
	return 1 <= len(s) && len(s) <= 80 && strings.Trim(s, "abcdefghijklmnopqrstuvwxyzABCDEFGHIJKLMNOPQRSTUVWXYZ0123456789_@?") == ""
}

// isLit tells whether this is a literal.
func isLit(s string) bool {
	n, is := new(big.Int).SetString(s, 10)
	return is && n.Sign() >= 0 && n.String() == s && n.Cmp(big.NewInt(1<<25+1)) <= 0
}

// isDriven tells whether this is a literal that a line may drive.
func isDriven(s string) bool { return isLit(s) && s != "0" && strings.Contains("02468", s[len(s)-1:]) }

// all tells whether is holds for all words.
func all(is func(string) bool, words []string) bool {
	return !slices.ContainsFunc(words, func(w string) bool { return !is(w) })
}

// inTable tells whether the document's table has a line of these parts.
func inTable(p []string) bool {
	switch p[0] {
	case ".model":
		return len(p) == 2 && isName(p[1])
	case ".input":
		return len(p) >= 3 && len(p) <= 66 && isName(p[1]) && all(isDriven, p[2:])
	case ".latch":
		return len(p) == 5 && isDriven(p[1]) && all(isLit, p[2:4]) && (p[4] == "0" || p[4] == "1")
	case ".and":
		return len(p) == 4 && isDriven(p[1]) && all(isLit, p[2:])
	case ".output":
		return len(p) >= 3 && len(p) <= 66 && isName(p[1]) && all(isLit, p[2:])
	}
	return len(p) == 1 && p[0] == ".end"
}

// said is a line's parts, its place, and what it drives and uses (upright).
type said struct {
	parts        []string
	at           int
	drives, uses []int
}

// numbers is what these words are.
func numbers(words []string) []int {
	l := make([]int, len(words))
	for i, w := range words {
		l[i], _ = strconv.Atoi(w)
	}
	return l
}

// say is a line of the table, as it is told.
func say(parts []string, at int) said {
	s := said{parts: parts, at: at}
	switch parts[0] {
	case ".input":
		s.drives = numbers(parts[2:])
	case ".latch", ".and":
		s.drives, s.uses = numbers(parts[1:2]), numbers(parts[2:4])
	case ".output":
		s.uses = numbers(parts[2:])
	}
	for i := range s.uses {
		s.uses[i] -= s.uses[i] % 2
	}
	return s
}

// lines is a text's lines, or the fault of its form.
func lines(text string) ([]said, api.Fault) {
	var l []said
	for at, end := 0, false; at < len(text) || !end; {
		first := at == 0
		line, _, is := strings.Cut(text[at:], "\n")
		parts := strings.Split(line, " ")
		if !is || end || !inTable(parts) || first != (parts[0] == ".model") {
			return nil, api.Fault{Code: api.ErrForm, At: at}
		}
		l = append(l, say(parts, at))
		at += len(line) + 1
		end = parts[0] == ".end"
	}
	return l, api.Fault{}
}

// order is the ands in the order in which they can be made, and those that can't be: by the document's words, one by one.
func order(l []said) (told, left []said) {
	for _, s := range l {
		if s.parts[0] == ".and" {
			left = append(left, s)
		}
	}
	slices.SortFunc(left, func(a, b said) int { return a.drives[0] - b.drives[0] })
	for {
		wanted := func(s said) bool {
			return slices.ContainsFunc(left, func(other said) bool { return slices.Contains(s.uses, other.drives[0]) })
		}
		i := slices.IndexFunc(left, func(s said) bool { return !wanted(s) })
		if i < 0 {
			return told, left
		}
		told, left = append(told, left[i]), slices.Delete(left, i, i+1)
	}
}

// faults is all faults of a text of lines of the table, which are few enough; of each kind in the order of the text.
func faults(l []said) []api.Fault {
	var third, fourth, fifth []api.Fault
	names, driven := map[string]bool{}, map[int]bool{0: true}
	for _, s := range l {
		code := api.OK
		for _, node := range s.drives {
			if driven[node] {
				code = api.ErrDriven
			}
			driven[node] = true
		}
		if s.parts[0] == ".input" || s.parts[0] == ".output" {
			if names[s.parts[0]+s.parts[1]] {
				code = api.ErrThere
			}
			names[s.parts[0]+s.parts[1]] = true
		}
		if code != api.OK {
			third = append(third, api.Fault{Code: code, At: s.at})
		}
	}
	for _, s := range l {
		if slices.ContainsFunc(s.uses, func(node int) bool { return !driven[node] }) {
			fourth = append(fourth, api.Fault{Code: api.ErrUndriven, At: s.at})
		}
	}
	if _, left := order(l); len(left) > 0 {
		first := slices.MinFunc(left, func(a, b said) int { return a.at - b.at })
		fifth = append(fifth, api.Fault{Code: api.ErrLoop, At: first.at})
	}
	return slices.Concat(third, fourth, fifth)
}

// tell is what the document tells of a text of few lines, step by step.
func tell(t *testing.T, text string) (*net.Net, api.Fault) {
	t.Helper()
	l, fault := lines(text)
	if fault.Code != api.OK {
		return nil, fault
	}
	if f := faults(l); len(f) > 0 {
		return nil, f[0]
	}
	n := made(t, l[0].parts[1], aig.Options{})
	now := map[int]lit.Lit{}
	is := func(word string) lit.Lit {
		old := numbers([]string{word})[0]
		return now[old-old%2].If(old%2 == 1)
	}
	for _, s := range l {
		if s.parts[0] == ".input" {
			row, e := n.AddIn(s.parts[1], len(s.drives))
			must(t, e)
			for i, node := range s.drives {
				now[node] = row[i]
			}
		}
	}
	for _, s := range l {
		if s.parts[0] == ".latch" {
			q, e := n.AddReg(s.parts[4] == "1")
			must(t, e)
			now[s.drives[0]] = q
		}
	}
	ands, _ := order(l)
	for _, s := range ands {
		g, e := n.Raw(is(s.parts[2]), is(s.parts[3]))
		must(t, e)
		now[s.drives[0]] = g
	}
	for _, s := range l {
		switch s.parts[0] {
		case ".latch":
			must(t, n.SetReg(is(s.parts[1]), is(s.parts[2]), is(s.parts[3])))
		case ".output":
			var row []lit.Lit
			for _, w := range s.parts[2:] {
				row = append(row, is(w))
			}
			must(t, n.AddOut(s.parts[1], row...))
		}
	}
	return n, api.Fault{}
}

// show is a text that is short enough to be shown.
func show(text string) string { return fmt.Sprintf("%.300q", text) }

// hold holds what All tells of a text of few lines against what the document tells.
func hold(t *testing.T, text string) (*net.Net, api.Fault) {
	t.Helper()
	want, fault := tell(t, text)
	b := []byte(text)
	got, is := read.All(b)
	if string(b) != text {
		t.Errorf("%s: it is changed", show(text))
	}
	if is != fault {
		t.Errorf("%s: fault %v, not %v", show(text), is, fault)
	}
	if !net.Same(got, want) {
		t.Errorf("%s: another netlist: %+v, not %+v", show(text), got, want)
	}
	if (got == nil) != (is.Code != api.OK) || got != nil && got.Check() != api.OK {
		t.Errorf("%s: fault %v beside a netlist %+v", show(text), is, got)
	}
	return got, is
}

// wantFault holds that a text has this fault.
func wantFault(t *testing.T, text string, code api.Errno, at int) {
	t.Helper()
	n, fault := read.All([]byte(text))
	if n != nil || fault != (api.Fault{Code: code, At: at}) {
		t.Errorf("%s: fault %v, not {%d %d}", show(text), fault, code, at)
	}
}

// wantText holds that a text is read as the netlist that emit tells so.
func wantText(t *testing.T, text, want string) {
	t.Helper()
	n, fault := read.All([]byte(text))
	if fault != (api.Fault{}) || n.Check() != api.OK || n.Options() != (aig.Options{}) {
		t.Fatalf("%s: fault %v, netlist %+v", show(text), fault, n)
	}
	if got := emitted(t, n); got != want {
		t.Errorf("%s: read as %s, not %s", show(text), show(got), show(want))
	}
}

// good is the netlist of a text that has no fault, and may be long.
func good(t *testing.T, text string) *net.Net {
	t.Helper()
	n, fault := read.All([]byte(text))
	if fault != (api.Fault{}) {
		t.Fatalf("%s: fault %v", show(text), fault)
	}
	must(t, n.Check())
	if n.Options() != (aig.Options{}) {
		t.Errorf("%s: options %v", show(text), n.Options())
	}
	return n
}

// played is what goes out of n in some cycles, by the buses' names; what comes in hangs on the names, too.
func played(t *testing.T, n *net.Net) map[string][]uint64 {
	t.Helper()
	s, e := sim.New(n)
	must(t, e)
	out := map[string][]uint64{}
	for cycle := range 6 {
		var in [][]uint64
		for _, b := range n.In {
			d := dice(cycle)
			for _, c := range []byte(b.Name) {
				d = d*31 + dice(c)
			}
			words := make([]uint64, len(b.Lits))
			for i := range words {
				words[i] = d.word()
			}
			in = append(in, words)
		}
		words, e := s.Step(in)
		must(t, e)
		for i, b := range n.Out {
			out[b.Name] = append(out[b.Name], words[i]...)
		}
	}
	return out
}
