package read_test

import (
	"fmt"
	"math"
	"slices"
	"strings"
	"testing"

	"orrery/aig"
	"orrery/api"
	"orrery/emit"
	"orrery/lit"
	"orrery/net"
	"orrery/read"
)

// The chapter's examples.
func TestExamples(t *testing.T) {
	wantText(t, whole(".input x 2 4", ".and 6 2 5", ".output y 7"), whole(".input x 2 4", ".and 6 5 2", ".output y 7"))
	wantFault(t, whole(".and 6 8 0", ".and 8 6 1"), api.ErrLoop, place(1))
	wantFault(t, whole(".input x 2 4", ".and 6 2 4", ".and 6 2 4"), api.ErrDriven, place(3, ".input x 2 4", ".and 6 2 4"))
	wantFault(t, whole(".output y 8"), api.ErrUndriven, place(1))
}

// wantLine holds that a line is of the table, or is not, wherever it stands between .model and .end; the lines beside it are.
func wantLine(t *testing.T, line string, may bool) {
	t.Helper()
	beside := []string{".input Z 33554400", ".output Z 33554400", ".latch 33554402 0 1 1"}
	for i := range len(beside) + 1 {
		l := slices.Insert(slices.Clone(beside), i, line)
		n, fault := read.All([]byte(whole(l...)))
		if may == (fault.Code == api.ErrForm) {
			t.Errorf("line %d, %s: fault %v", i, show(line), fault)
		}
		if !may && (n != nil || fault != (api.Fault{Code: api.ErrForm, At: place(i+1, l...)})) {
			t.Errorf("line %d, %s: fault %v at another place than %d", i, show(line), fault, place(i+1, l...))
		}
	}
}

// literals are words that are literals, and words that are none.
func literals() (is, isNot []string) {
	is = []string{"0", "1", "2", "3", "9", "10", "11", "99", "100", "101", "16777216", "16777217", "33554430", "33554431", "33554432", "33554433"}
	isNot = []string{"", "33554434", "33554435", "33554440", "33554500", "40000000", "100000000", "100000002", "4294967295", "4294967296", "4294967298",
		"18446744073709551615", "18446744073709551616", "18446744073709551618", "2" + strings.Repeat("0", 100), strings.Repeat("9", 100000),
		"00", "01", "02", "002", "010", "000000000002", "+0", "+2", "-0", "-1", "-2", "--2", "2-", "2+", "0x2", "0X2", "0b10", "0o2", "2_0", "_2", "2.0", "2.", ".2", "2e1", "1e1",
		"a", "2a", "a2", "two", "f", "2,", "2;", "\t2", "2\t", "\v2", "\f2", "2\r", "\r2", "2\x00", "\x002", "\x00", "2\xa0", "\u00a02", "2\u00a0", "\u0662", "\uff12", "\u00b2", "\xff", "~2", "!2", "#2", "*"}
	return is, isNot
}

// P11.1: each place of a line where a literal may stand, with literals and with other words.
func TestLiterals(t *testing.T) {
	is, isNot := literals()
	driven := []string{".input a %s", ".input a 8 %s", ".input a %s 8", ".input a 8 %s 6", ".latch %s 1 1 0", ".and %s 1 1"}
	used := []string{".latch 8 %s 1 0", ".latch 8 1 %s 0", ".and 8 %s 1", ".and 8 1 %s", ".output a %s", ".output a 8 %s", ".output a %s 8", ".output a 8 %s 6"}
	for _, form := range driven {
		for _, w := range is {
			wantLine(t, fmt.Sprintf(form, w), w != "0" && strings.Contains("02468", w[len(w)-1:]))
		}
	}
	for _, form := range used {
		for _, w := range is {
			wantLine(t, fmt.Sprintf(form, w), true)
		}
	}
	for _, form := range slices.Concat(driven, used) {
		for _, w := range isNot {
			wantLine(t, fmt.Sprintf(form, w), false)
		}
	}
}

// P11.1: each literal that may be used or driven is what it says.
func TestGreatest(t *testing.T) {
	wantText(t, whole(".input a 33554432", ".output x 33554433 33554432 1 0"), whole(".input a 2", ".output x 3 2 1 0"))
	wantText(t, whole(".latch 33554432 33554433 33554432 1"), whole(".latch 2 3 2 1"))
	wantText(t, whole(".and 33554432 33554430 33554431", ".input a 33554430", ".output x 33554433"), whole(".input a 2", ".and 4 3 2", ".output x 5"))
}

// P11.1: what a register begins with is 0 or 1 and nothing else.
func TestBegins(t *testing.T) {
	for _, w := range []string{"", "2", "3", "00", "01", "10", "11", "+0", "-1", "+1", "true", "false", "x", "\t1", "1\r", "1\x00", "\uff11"} {
		wantLine(t, ".latch 8 1 1 "+w, false)
	}
	wantLine(t, ".latch 8 1 1 0", true)
	wantLine(t, ".latch 8 1 1 1", true)
	wantText(t, whole(".latch 8 1 1 0", ".latch 4 0 8 1"), whole(".latch 2 1 1 0", ".latch 4 0 2 1"))
}

// P11.1: buses of no literal, of 1, of up to 64, and of more.
func TestWidths(t *testing.T) {
	for width := range 70 {
		in, ones := ".input a", ".output b"
		for i := range width {
			in, ones = in+fmt.Sprintf(" %d", 200-2*i), ones+" 1"
		}
		wantLine(t, in, 1 <= width && width <= 64)
		wantLine(t, ones, 1 <= width && width <= 64)
		if 1 <= width && width <= 64 {
			n := good(t, whole(in, strings.Replace(in, ".input", ".output", 1), ones))
			if len(n.In) != 1 || len(n.In[0].Lits) != width || !slices.Equal(n.Out[0].Lits, n.In[0].Lits) || len(n.Out[1].Lits) != width {
				t.Errorf("%d wide: %+v", width, n)
			}
		}
		for _, line := range []string{in, ones} {
			wantLine(t, line+" ", false)
			wantLine(t, strings.Replace(line, "put ", "put  ", 1), false)
		}
	}
	for _, width := range []int{100, 1000, 100000} {
		wantLine(t, ".output a"+strings.Repeat(" 0", width), false)
		wantLine(t, ".output a"+strings.Repeat(" ", width), false)
		wantLine(t, ".input a"+strings.Repeat(" 2", width), false)
	}
}

// P11.1: names that a bus may have, and others, of the model and of buses.
func TestNames(t *testing.T) {
	const spelt = "abcdefghijklmnopqrstuvwxyzABCDEFGHIJKLMNOPQRSTUVWXYZ0123456789_@?"
	may := append(strings.Split(spelt, ""), spelt, strings.Repeat("x", 79), strings.Repeat("?", 80), "model", "end", "input", "0", "007", "a@1", "a?", "2", "m")
	mayNot := []string{"", strings.Repeat("x", 81), strings.Repeat("x", 82), strings.Repeat("x", 1000), strings.Repeat("x", 100000), ".", ".end", "a.b", "a-b", "a+", "-", "a\t", "\ta", "a\r", "a\x00", "\x00", "a,b", "a:8", "a[0]", "a/b",
		"a#", "\"a\"", "ä", "a\xff", "\u00a0", "ａ", "`", "{", "[", "^", "/", ":", ">", "A\\", "~", "$a", "a=b", "a\vb", "\xef\xbb\xbfa"}
	for b := range 256 {
		if s := string([]byte{byte(b)}); !isName(s) && s != "\n" && s != " " {
			mayNot = append(mayNot, s, "a"+s, s+"a")
		}
	}
	for _, name := range may {
		wantLine(t, ".input "+name+" 2", true)
		wantLine(t, ".output "+name+" 1", true)
		own := text(".model "+name, ".input "+name+" 2", ".output "+name+" 2", ".end")
		wantText(t, own, own)
	}
	for _, name := range mayNot {
		wantLine(t, ".input "+name+" 2", false)
		wantLine(t, ".output "+name+" 1", false)
		wantFault(t, text(".model "+name, ".end"), api.ErrForm, 0)
	}
}

// P11.1: lines of the table with something ahead, behind or between, or with something wanting; and lines of nothing in it.
func TestLines(t *testing.T) {
	for _, line := range []string{".input a 2 4", ".latch 2 3 4 0", ".and 2 4 6", ".output a 3 4", ".model m", ".end"} {
		parts := strings.Split(line, " ")
		first := parts[0]
		bus := first == ".input" || first == ".output"
		if first != ".end" {
			wantLine(t, line, first != ".model")
		}
		for _, spoilt := range []string{" " + line, line + " ", line + "  ", "\t" + line, line + "\t", line + "\r", "\r" + line, line + "\x00", "\xef\xbb\xbf" + line, line + "\\", line + " #", "#" + line,
			line[1:], "." + line, strings.ToUpper(line), ".\u0130" + line[2:], strings.ToUpper(line[:2]) + line[2:], ". " + line[1:], first + "s" + line[len(first):]} {
			wantLine(t, spoilt, false)
		}
		for i := 1; i < len(parts); i++ {
			for _, blank := range []string{"  ", "   ", "\t", " \t", "\t ", "\u00a0", "\r", ","} {
				wantLine(t, strings.Join(parts[:i], " ")+blank+strings.Join(parts[i:], " "), false)
			}
			if !bus {
				wantLine(t, strings.Join(slices.Delete(slices.Clone(parts), i, i+1), " "), false)
			}
		}
		wantLine(t, first+strings.TrimPrefix(line, first+" "), false)
		if !bus {
			wantLine(t, line+" 8", false)
			wantLine(t, line+" 0", false)
		}
	}
	for _, line := range []string{".and", ".latch", ".input", ".output", ".input a", ".output a", ".input 2", ".output 2", ".and 2", ".and 2 1", ".latch 2", ".latch 2 1", ".latch 2 1 1", ".and a 2 1 1", ".latch a 2 1 1 0"} {
		wantLine(t, line, false)
	}
	for _, line := range []string{"", " ", "\r", ".", "m", "2", "#", "# m", ".inputs a 2", ".in a 2", ".gate 8 2 4", ".names a b", ".not 8 2", ".or 8 2 4", ".clock", ".MODEL m", "end", ".end.", ".e", "\x00", "\xff\xfe", strings.Repeat("x", 100000), strings.Repeat(" ", 100000)} {
		wantLine(t, line, false)
	}
}

// P11.1: .model and .end wanting, twice, not where they may be, with something behind.
func TestPlaces(t *testing.T) {
	const at1 = len(".model m\n")
	for _, x := range []struct {
		text string
		at   int
	}{
		{"", 0},
		{"\n", 0},
		{" ", 0},
		{".model m", 0},
		{".model m\n", at1},
		{".model\n.end\n", 0},
		{".model \n.end\n", 0},
		{".model m m\n.end\n", 0},
		{".end\n", 0},
		{".end\n.model m\n", 0},
		{".end", 0},
		{"\n.model m\n.end\n", 0},
		{".input a 2\n", 0},
		{".input a 2\n.end\n", 0},
		{".input a 2\n.model m\n.end\n", 0},
		{".output x 1\n.model m\n.end\n", 0},
		{".model m\n.model m\n.end\n", at1},
		{".model m\n.model n\n.end\n", at1},
		{".model m\n.input a 2\n.model m\n.end\n", at1 + 11},
		{".model m\n.input a 2\n", at1 + 11},
		{".model m\n.end", at1},
		{".model m\n.end\n.end\n", at1 + 5},
		{".model m\n.end\n.end", at1 + 5},
		{".model m\n.end\n\n", at1 + 5},
		{".model m\n.end\n ", at1 + 5},
		{".model m\n.end\n\x00", at1 + 5},
		{".model m\n.end\n.model m\n", at1 + 5},
		{".model m\n.end\n.model m\n.end\n", at1 + 5},
		{".model m\n.end\n.input a 2\n", at1 + 5},
		{".model m\n.end\n.input a 2\n.end\n", at1 + 5},
		{".model m\n.end\n# more\n", at1 + 5},
		{".model m\n.end 1\n", at1},
		{".model m\n.end \n", at1},
		{".model m\n.end\r\n", at1},
		{".model m\r\n.end\r\n", 0},
		{".model m\n\n.end\n", at1},
		{".model m\n.input a 2.end\n", at1},
		{".model m\n.input a 2 .end\n", at1},
		{".model m .end\n", 0},
		{".model m\n.and 2 1 1\n.end\n.and 2 1 1\n.foo\n", at1 + 16},
		{".model m\n.and 2 1 1\n.foo\n.end\n.and 2 1 1\n", at1 + 11},
	} {
		wantFault(t, x.text, api.ErrForm, x.at)
		hold(t, x.text)
	}
	wantText(t, ".model m\n.end\n", ".model m\n.end\n")
	for _, b := range [][]byte{nil, {}} {
		if n, fault := read.All(b); n != nil || fault != (api.Fault{Code: api.ErrForm}) {
			t.Errorf("the empty text: %v, fault %v", n, fault)
		}
	}
}

// P11.1: each beginning of a text is cut in a line, or wants its last one; and each text behind the first line wants .model.
func TestCut(t *testing.T) {
	const all = ".model top\n.input a 2 4\n.latch 6 8 1 1\n.and 8 6 2\n.output x 9\n.end\n"
	wantText(t, all, all)
	for i := range len(all) {
		wantFault(t, all[:i], api.ErrForm, strings.LastIndexByte(all[:i], '\n')+1)
		if i > 0 {
			wantFault(t, all[i:], api.ErrForm, 0)
		}
		hold(t, all[:i]+all[i+1:])
		hold(t, all[:i]+"\n"+all[i:])
		hold(t, all[:i]+" "+all[i:])
		hold(t, all+all[:i])
	}
}

// P11.1: each byte of a text exchanged for each other one.
func TestSpoilt(t *testing.T) {
	const all = ".model m\n.input a 2 4\n.latch 6 8 1 1\n.and 8 6 2\n.output x 9\n.end\n"
	for i := range len(all) {
		for b := range 256 {
			hold(t, all[:i]+string([]byte{byte(b)})+all[i+1:])
		}
	}
}

// sized is a text of just so many bytes (of at least 1000) without a fault: of buses that go out.
func sized(size int) string {
	const widest = len(".output \n") + 80 + 2*64
	var b strings.Builder
	b.WriteString(".model m\n")
	left := size - len(".model m\n.end\n")
	for i := 0; left >= 2*widest; i++ {
		fmt.Fprintf(&b, ".output _%079d%s\n", i, strings.Repeat(" 1", 64))
		left -= widest
	}
	for i, bytes := range []int{left / 2, left - left/2} {
		wide := min(64, (bytes-len(".output \n"))/2-1)
		name := strings.Repeat(string("ab"[i]), bytes-len(".output \n")-2*wide)
		fmt.Fprintf(&b, ".output %s%s\n", name, strings.Repeat(" 0", wide))
	}
	b.WriteString(".end\n")
	return b.String()
}

// P11.1: texts of up to MaxText bytes are read, longer ones are ErrLong at 0, whatever else is wrong.
func TestLong(t *testing.T) {
	for _, size := range []int{1000, 4321, api.MaxText - 1, api.MaxText} {
		all := sized(size)
		if len(all) != size {
			t.Fatalf("%d bytes, not %d", len(all), size)
		}
		n := good(t, all)
		if b, e := emit.All(n); e != api.OK || string(b) != all {
			t.Errorf("a text of %d bytes is read as another one, error %d", size, e)
		}
	}
	wantFault(t, sized(api.MaxText+1), api.ErrLong, 0)
	wantFault(t, sized(api.MaxText)+"\n", api.ErrLong, 0)
	for _, one := range []string{"\n", " ", "x", ".", "\x00"} {
		wantFault(t, strings.Repeat(one, api.MaxText), api.ErrForm, 0)
		wantFault(t, strings.Repeat(one, api.MaxText+1), api.ErrLong, 0)
	}
	wantFault(t, strings.Repeat(".end\n", api.MaxText/5+1), api.ErrLong, 0)
	most := whole(".output x " + strings.Repeat("0", api.MaxText-30))
	wantFault(t, most, api.ErrForm, place(1))
	most = ".model m\n" + strings.Repeat(".and 2 1 1\n", (api.MaxText-20)/11)
	wantFault(t, most, api.ErrForm, len(most))
	wantFault(t, most+".end\n", api.ErrDriven, place(2, ".and 2 1 1"))
}

// P11.1: a text of the most buses is read, too; none of them is looked for among all others.
func TestManyBuses(t *testing.T) {
	var b strings.Builder
	b.WriteString(".model m\n")
	const ins = api.MaxRegs + api.MaxGates
	for i := range ins {
		fmt.Fprintf(&b, ".input %x %d\n", i, 2*i+2)
	}
	outs := 0
	for ; b.Len() < api.MaxText-30; outs++ {
		fmt.Fprintf(&b, ".output %x %d\n", outs, outs%ins+2)
	}
	b.WriteString(".end\n")
	n := good(t, b.String())
	if len(n.In) != ins || len(n.Out) != outs || emitted(t, n) != b.String() {
		t.Errorf("%d buses in, %d out, not %d, %d", len(n.In), len(n.Out), ins, outs)
	}
}

// P11.1: ErrThere of two inputs, and of two outputs of one name; an input and an output of one name may be, and the model's.
func TestThere(t *testing.T) {
	wantText(t, whole(".input m 2", ".output m 3"), whole(".input m 2", ".output m 3"))
	wantText(t, whole(".output a 3", ".input a 2"), whole(".input a 2", ".output a 3"))
	wantText(t, whole(".input a 2", ".input A 4", ".input a? 6", ".input aa 8"), whole(".input a 2", ".input A 4", ".input a? 6", ".input aa 8"))
	long := strings.Repeat("a", 80)
	for _, x := range []struct {
		at    int
		lines []string
	}{
		{2, []string{".input a 2", ".input a 4"}},
		{2, []string{".output a 0", ".output a 1"}},
		{2, []string{".output a 0", ".output a 0"}},
		{6, []string{".input a 2", ".input b 4", ".and 8 1 1", ".output a 0", ".latch 10 1 1 0", ".input a 6"}},
		{5, []string{".output a 0", ".output b 0", ".and 8 1 1", ".input a 2", ".output b 1", ".output a 1"}},
		{2, []string{".input " + long + " 2", ".input " + long + " 4"}},
		{2, []string{".input a 2 4", ".input a 2 4"}},
		{2, []string{".input a 2", ".input a 4 4"}},
		{2, []string{".input a 2", ".input a 4", ".input a 6"}},
	} {
		wantFault(t, whole(x.lines...), api.ErrThere, place(x.at, x.lines...))
		hold(t, whole(x.lines...))
	}
}

// drivers are lines of each kind that drives that literal.
func drivers(name string, l int) []string {
	return []string{fmt.Sprintf(".input %s %d", name, l), fmt.Sprintf(".input %s 100 %d", name, l), fmt.Sprintf(".input %s %d 102", name, l), fmt.Sprintf(".latch %d 1 1 0", l), fmt.Sprintf(".and %d 0 1", l)}
}

// P11.1: ErrDriven of a node driven by two lines of any kinds, and by one line twice.
func TestDriven(t *testing.T) {
	for i, first := range drivers("a", 8) {
		for k, second := range drivers("b", 8) {
			if i == k && (i == 1 || i == 2) {
				continue
			}
			wantFault(t, whole(first, second), api.ErrDriven, place(2, first))
			l := []string{".output x 8", first, ".output y 9", ".input c 2 4 6", second, ".latch 10 8 8 1", ".and 12 8 8"}
			wantFault(t, whole(l...), api.ErrDriven, place(5, l...))
			hold(t, whole(l...))
			hold(t, whole(first, drivers("b", 6)[k]))
			if i+k > 0 && i != k {
				good(t, whole(first, drivers("b", 6)[k]))
			}
		}
	}
	for _, line := range []string{".input a 2 2", ".input a 2 4 2", ".input a 2 4 6 8 8 10", ".input a" + strings.Repeat(" 2", 64)} {
		wantFault(t, whole(".input b 20", line, ".and 2 1 1"), api.ErrDriven, place(2, ".input b 20"))
	}
	wantFault(t, whole(".and 2 1 1", ".and 2 1 1", ".and 2 1 1"), api.ErrDriven, place(2, ".and 2 1 1"))
	// Of both literals of a node only the upright one may be driven; the next node is another one.
	wantText(t, whole(".input a 2 4", ".and 6 3 5"), whole(".input a 2 4", ".and 6 5 3"))
}

// latches is so many latches, that drive 2, 4, ..
func latches(n int) []string {
	l := make([]string, n)
	for i := range l {
		l[i] = fmt.Sprintf(".latch %d 1 %d 0", 2*i+2, 2*(n-i))
	}
	return l
}

// inputs is so many buses of that width, that drive from from on; each one's name tells the first literal.
func inputs(n, width, from int) []string {
	l := make([]string, n)
	for i := range l {
		var b strings.Builder
		fmt.Fprintf(&b, ".input i%d", from+2*i*width)
		for k := range width {
			fmt.Fprintf(&b, " %d", from+2*(i*width+k))
		}
		l[i] = b.String()
	}
	return l
}

// gates is so many ands, that drive from from on, each of the one ahead of it.
func gates(n, from int) []string {
	l := make([]string, n)
	for i := range l {
		l[i] = fmt.Sprintf(".and %d %d 1", from+2*i, max(0, from+2*i-2))
		if i == 0 {
			l[i] = fmt.Sprintf(".and %d 0 1", from)
		}
	}
	return l
}

// wantFull holds that the lines are read, and are too many with one of more at any of these places behind them.
func wantFull(t *testing.T, l []string, more ...string) {
	t.Helper()
	good(t, whole(l...))
	for _, one := range more {
		wantFault(t, whole(append(slices.Clone(l), one)...), api.ErrFull, place(len(l)+1, l...))
		// The first line with which there are too many is told, be it one of those.
		last := l[len(l)-1]
		if strings.Fields(last)[0] == strings.Fields(one)[0] {
			mixed := append(slices.Clone(l[:len(l)-1]), one, last, one)
			wantFault(t, whole(mixed...), api.ErrFull, place(len(l)+1, mixed...))
		}
	}
}

// P11.1: MaxRegs latches and one more, MaxGates ands and one more, MaxRegs + MaxGates literals of inputs, and latches, and one more.
func TestFull(t *testing.T) {
	const many = api.MaxRegs + api.MaxGates
	wantFull(t, latches(api.MaxRegs), ".latch 33554432 1 1 0")
	wantFull(t, gates(api.MaxGates, 2), ".and 33554432 1 1")
	wantFull(t, inputs(many/64, 64, 2), ".input last 33554432", ".input last 33554432 33554430", ".latch 33554432 1 1 0")
	wantFull(t, append(latches(api.MaxRegs), inputs(api.MaxGates/64, 64, 2*api.MaxRegs+2)...), ".input last 33554432", ".latch 33554432 1 1 1")
	wantFull(t, append(inputs(many/64-1, 64, 2), inputs(1, 63, 2*many)[0]+" 33554430"), ".input last 33554432", ".latch 33554432 1 1 0")
	all := slices.Concat(gates(api.MaxGates, 2*many+2), latches(api.MaxRegs), inputs(api.MaxGates/64, 64, 2*api.MaxRegs+2), []string{".output x 2", fmt.Sprintf(".output y %d", 2*(many+api.MaxGates)+1)})
	wantFull(t, all, ".and 33554432 1 1", ".latch 33554432 1 1 0", ".input last 33554432")
	n := good(t, whole(all...))
	if n.Gates() != api.MaxGates || n.Bits() != api.MaxRegs || len(n.Inputs()) != many || n.Nodes() != 1+many+api.MaxGates {
		t.Errorf("%d gates, %d bits, %d inputs, %d nodes", n.Gates(), n.Bits(), len(n.Inputs()), n.Nodes())
	}
	// Ands are not counted among the literals, nor outputs among anything.
	good(t, whole(slices.Concat(gates(api.MaxGates, 2*many+2), inputs(many/64, 64, 2), []string{".output x 2", ".output y 4"})...))
	// A line that drives much is too much as a whole.
	wide := append(inputs(many/64-1, 64, 2), ".input a 33554432", inputs(1, 64, 2*many)[0])
	wantFault(t, whole(wide...), api.ErrFull, place(len(wide), wide...))
}

// P11.1: of one line ErrThere comes ahead of ErrDriven, and this ahead of ErrFull; of several lines the first one's fault.
func TestFaultOfLine(t *testing.T) {
	const many = api.MaxRegs + api.MaxGates
	l := inputs(many/64, 64, 2)
	for more, code := range map[string]api.Errno{".input i2 33554432": api.ErrThere, ".input i2 2": api.ErrThere, ".input new 2": api.ErrDriven, ".input new 33554432": api.ErrFull,
		".input new 33554432 33554432": api.ErrDriven, ".latch 2 1 1 0": api.ErrDriven, ".latch 33554432 1 1 0": api.ErrFull, ".and 4 1 1": api.ErrDriven} {
		wantFault(t, whole(append(slices.Clone(l), more, ".input i2 2", ".and 2 1 1", ".input other 33554430")...), code, place(len(l)+1, l...))
	}
	l = latches(api.MaxRegs)
	wantFault(t, whole(append(slices.Clone(l), ".latch 2 1 1 0", ".latch 33554432 1 1 0")...), api.ErrDriven, place(len(l)+1, l...))
	l = gates(api.MaxGates, 2)
	wantFault(t, whole(append(slices.Clone(l), ".and 2 1 1", ".and 33554432 1 1")...), api.ErrDriven, place(len(l)+1, l...))
	wantFault(t, whole(append(slices.Clone(l), ".and 33554432 1 1", ".and 2 1 1")...), api.ErrFull, place(len(l)+1, l...))
	wantFault(t, whole(".input a 2", ".input a 2"), api.ErrThere, place(2, ".input a 2"))
	wantFault(t, whole(".input a 2", ".input b 2", ".input a 4"), api.ErrDriven, place(2, ".input a 2"))
	wantFault(t, whole(".input a 2", ".input a 4", ".input b 2"), api.ErrThere, place(2, ".input a 2"))
}

// P11.1: ErrUndriven of each place where a line uses a literal; the constant needs no line.
func TestUndriven(t *testing.T) {
	const in = ".input a 2 4"
	used := []string{".latch 6 %d 2 0", ".latch 6 2 %d 1", ".and 6 %d 2", ".and 6 2 %d", ".and 6 %[1]d %[1]d", ".output x %d", ".output x 2 %d", ".output x %d 3", ".output x 1 2 3 4 5 %d 0"}
	for _, form := range used {
		for _, l := range []int{8, 9, 10, 33554432, 33554433} {
			line := fmt.Sprintf(form, l)
			wantFault(t, whole(in, line), api.ErrUndriven, place(2, in))
			wantFault(t, whole(line, in), api.ErrUndriven, place(1))
			wantFault(t, whole(in, ".output y 5", line, ".output z 12", ".and 14 16 18"), api.ErrUndriven, place(3, in, ".output y 5"))
			for _, driver := range drivers("b", l-l%2) {
				good(t, whole(in, line, driver))
				good(t, whole(driver, line, in))
			}
		}
		for l := range 6 {
			good(t, whole(in, fmt.Sprintf(form, l)))
		}
	}
	// What is used by nothing is driven for nothing, and may be.
	good(t, whole(in, ".latch 6 6 6 0", ".and 8 2 2"))
}

// P11.1: gates that need each other in a round, and gates behind a round; At is the first of these in the text, whatever their numbers are.
func TestLoop(t *testing.T) {
	for _, x := range []struct {
		lines string
		first int
	}{
		{".and 6 6 1", 1},
		{".and 6 0 7", 1},
		{".and 6 6 7", 1},
		{".input a 2/.and 6 2 6", 2},
		{".and 6 8 0/.and 8 6 1", 1},
		{".and 8 6 1/.and 6 8 0", 1},
		{".and 6 8 8/.and 8 10 1/.and 10 1 7", 1},
		{".and 4 1 1/.and 6 8 4/.and 8 10 4/.and 10 4 7", 2},
		{".and 20 6 1/.and 6 6 6", 1},
		{".and 2 6 1/.and 6 6 6", 1},
		{".and 6 6 6/.and 2 6 1", 1},
		{".output x 4/.input a 2/.and 4 2 2/.and 30 28 4/.and 28 4 26/.and 26 24 5/.and 24 27 2", 4},
		{".and 30 28 4/.and 4 1 1/.and 28 29 4/.and 26 26 4", 1},
		{".and 40 4 1/.and 4 1 1/.and 42 40 4/.and 28 29 4/.and 26 28 4", 4},
		{".and 40 4 1/.and 4 1 1/.and 42 40 4/.and 26 28 4/.and 28 29 4", 4},
		{".latch 2 6 7 0/.and 4 2 2/.and 6 8 4/.and 8 7 3", 3},
		{".and 6 8 1/.and 8 6 1/.and 10 12 1/.and 12 10 1", 1},
		{".and 12 10 1/.and 6 8 1/.and 8 6 1/.and 10 12 1", 1},
		{".and 14 6 1/.and 10 12 1/.and 12 10 1/.and 6 8 1/.and 8 6 1", 1},
	} {
		l := strings.Split(x.lines, "/")
		wantFault(t, whole(l...), api.ErrLoop, place(x.first, l...))
		hold(t, whole(l...))
	}
	// A register between gates makes no round of them.
	wantText(t, whole(".latch 2 6 1 0", ".and 6 3 1"), whole(".latch 2 4 1 0", ".and 4 3 1"))
	wantText(t, whole(".latch 2 2 2 0"), whole(".latch 2 2 2 0"))
}

// P11.1: rounds of very many gates, many rounds, and many gates behind one.
func TestLongLoop(t *testing.T) {
	l := gates(api.MaxGates, 2)
	slices.Reverse(l)
	n := good(t, whole(append(l, fmt.Sprintf(".output x %d", 2*api.MaxGates))...))
	if n.Gates() != api.MaxGates || n.Out[0].Lits[0] != 2*api.MaxGates {
		t.Errorf("a long row, backwards: %d gates, out %v", n.Gates(), n.Out)
	}
	l[len(l)-1] = fmt.Sprintf(".and 2 %d 1", 2*api.MaxGates)
	wantFault(t, whole(l...), api.ErrLoop, place(1, l...))
	l[len(l)-1] = ".and 2 2 1"
	wantFault(t, whole(l...), api.ErrLoop, place(1, l...))
	l[len(l)-1] = ".and 2 1 1"
	l[0] = strings.Replace(l[0], " 1", fmt.Sprintf(" %d", 2*api.MaxGates), 1)
	wantFault(t, whole(l...), api.ErrLoop, place(1, l...))
	slices.Reverse(l)
	wantFault(t, whole(l...), api.ErrLoop, place(len(l), l...))
	for i := range l {
		l[i] = fmt.Sprintf(".and %d %d %d", 2*i+2, 2*(i^1)+2, 2*(i^1)+3)
	}
	wantFault(t, whole(l...), api.ErrLoop, place(1, l...))
	l[0] = ".and 2 1 1"
	wantFault(t, whole(l...), api.ErrLoop, place(3, l...))
}

// P11.1: where two faults could be told, the one that stands first among the promise's is told, wherever their lines are.
func TestOrderOfFaults(t *testing.T) {
	base := []string{".input in 2 4", ".output out 5"}
	wrong := []struct {
		lines []string
		code  api.Errno
	}{
		{[]string{".foo"}, api.ErrForm},
		{[]string{".output in 3", ".output in 3"}, api.ErrThere},
		{[]string{".and 20 2 4", ".latch 20 2 4 0"}, api.ErrDriven},
		{[]string{".output u 50"}, api.ErrUndriven},
		{[]string{".and 30 32 2", ".and 32 31 2"}, api.ErrLoop},
	}
	ahead := map[api.Errno]int{api.ErrForm: 0, api.ErrThere: 1, api.ErrDriven: 1, api.ErrUndriven: 2, api.ErrLoop: 3}
	at := func(code api.Errno, lines []string, l []string) int {
		// ErrThere and ErrDriven are the second line's.
		return place(1+slices.Index(l, lines[0])+map[int]int{1: 1}[ahead[code]], l...)
	}
	for _, a := range wrong {
		l := slices.Concat(base, a.lines)
		wantFault(t, whole(l...), a.code, at(a.code, a.lines, l))
		for _, b := range wrong {
			if a.code == b.code {
				continue
			}
			told := a
			if ahead[b.code] < ahead[a.code] {
				told = b
			}
			l := slices.Concat(base[:1], a.lines, base[1:], b.lines)
			wantFault(t, whole(l...), told.code, at(told.code, told.lines, l))
			hold(t, whole(l...))
		}
		l = slices.Concat(base, a.lines)
		all := ".model m\n" + strings.Join(l, "\n") + "\n"
		if a.code != api.ErrForm {
			wantFault(t, all, api.ErrForm, len(all))
			wantFault(t, all+".end", api.ErrForm, len(all))
			wantFault(t, all+".end\n\n", api.ErrForm, len(all)+5)
			wantFault(t, ".input z 60\n"+all+".end\n", api.ErrForm, 0)
			wantFault(t, all+".end\n"+strings.Repeat("\n", api.MaxText), api.ErrLong, 0)
		}
	}
}

// P11.1: the new numbers: inputs in the order of lines, then registers, then gates: again and again the one of the least old number that needs no other.
func TestNumbers(t *testing.T) {
	wantText(t, whole(
		".output z 11 8 3 1", ".and 10 90 7", ".latch 90 10 3 1", ".input c 16777216 2", ".and 4 11 11", ".latch 6 91 16777217 0", ".and 8 10 4", ".input a 33554432", ".output a 33554433"),
		whole(".input c 2 4", ".input a 6", ".latch 8 12 5 1", ".latch 10 9 3 0", ".and 12 11 8", ".and 14 13 13", ".and 16 14 12", ".output z 13 16 5 1", ".output a 7"))
	// Gates whose numbers are below those of what they use, and gates that could come next in any order.
	wantText(t, whole(".and 2 4 1", ".and 4 6 1", ".and 6 8 1", ".input a 8", ".output x 2 4 6 8"),
		whole(".input a 2", ".and 4 2 1", ".and 6 4 1", ".and 8 6 1", ".output x 8 6 4 2"))
	wantText(t, whole(".and 40 3 3", ".and 30 50 3", ".and 20 3 2", ".and 10 40 2", ".and 50 2 2", ".input a 2", ".output x 10 20 30 40 50"),
		whole(".input a 2", ".and 4 3 2", ".and 6 3 3", ".and 8 6 2", ".and 10 2 2", ".and 12 10 3", ".output x 8 4 12 6 10"))
	// A gate of twice the same, of opposites, and of constants is one nevertheless, and two of the same are two.
	wantText(t, whole(".input a 2", ".and 4 2 2", ".and 6 2 3", ".and 8 0 1", ".and 10 1 1", ".and 12 2 1", ".and 14 2 2"),
		whole(".input a 2", ".and 4 2 2", ".and 6 3 2", ".and 8 1 0", ".and 10 1 1", ".and 12 2 1", ".and 14 2 2"))
	// Which of a gate's two comes first hangs on the new numbers.
	wantText(t, whole(".input a 8", ".latch 6 1 1 0", ".and 10 6 8", ".and 12 8 6"), whole(".input a 2", ".latch 4 1 1 0", ".and 6 4 2", ".and 8 4 2"))
}

// P11.1: lines of little texts, in any order, are read as the document tells it, or have the fault that it tells.
func TestAllLittle(t *testing.T) {
	lines := []string{".input a 2", ".input a 4", ".input b 6 4", ".latch 2 6 1 0", ".latch 4 5 3 1", ".and 6 2 4", ".and 4 6 1", ".and 8 7 8", ".and 2 1 9", ".output a 7", ".output b 2 8", ".output a 0"}
	counts := map[api.Errno]int{}
	var grow func(l []string)
	grow = func(l []string) {
		_, fault := hold(t, whole(l...))
		counts[fault.Code]++
		if len(l) == 4 {
			return
		}
		for _, line := range lines {
			grow(append(slices.Clone(l), line))
		}
	}
	grow(nil)
	for _, code := range []api.Errno{api.OK, api.ErrThere, api.ErrDriven, api.ErrUndriven, api.ErrLoop} {
		if counts[code] < 100 {
			t.Errorf("only %d texts of %d", counts[code], code)
		}
	}
}

// P11.1: .model, .end and others in any order, with the last newline and without.
func TestAllForms(t *testing.T) {
	lines := []string{".model m", ".end", ".input a 2", ".output b 1", "", ".foo"}
	var grow func(l []string)
	grow = func(l []string) {
		hold(t, strings.Join(l, "\n"))
		hold(t, text(l...))
		if len(l) == 5 {
			return
		}
		for _, line := range lines {
			grow(append(slices.Clone(l), line))
		}
	}
	grow(nil)
}

// far is the text with other numbers: each node's is any other one.
func far(d *dice, text string) string {
	nodes := map[string]int{}
	taken := map[int]bool{0: true}
	lines := strings.Split(text, "\n")
	for i, line := range lines {
		words := strings.Split(line, " ")
		for k, w := range words {
			if k < 1 || k < 2 && words[0] != ".latch" && words[0] != ".and" || k == 4 && words[0] == ".latch" {
				continue
			}
			n := numbers([]string{w})[0]
			key := fmt.Sprint(n / 2)
			for n > 1 && nodes[key] == 0 {
				if is := 1 + d.roll(1<<24); !taken[is] {
					nodes[key], taken[is] = is, true
				}
			}
			words[k] = fmt.Sprint(2*nodes[key] + n%2)
		}
		lines[i] = strings.Join(words, " ")
	}
	return strings.Join(lines, "\n")
}

// spoil is the text with a few lines, words or bytes changed.
func spoil(d *dice, text string) string {
	for range 1 + d.roll(3) {
		lines := strings.Split(text, "\n")
		i, k := d.roll(len(lines)), d.roll(len(lines))
		words := strings.Split(lines[i], " ")
		others := strings.Split(lines[k], " ")
		switch d.roll(7) {
		case 0:
			lines[i], lines[k] = lines[k], lines[i]
		case 1:
			lines = slices.Insert(lines, i, lines[k])
		case 2:
			lines = slices.Delete(lines, i, i+1)
		case 3:
			words[d.roll(len(words))] = others[d.roll(len(others))]
			lines[i] = strings.Join(words, " ")
		case 4:
			words[len(words)-1] = fmt.Sprint(d.roll(30))
			lines[i] = strings.Join(words, " ")
		case 5:
			if line := []byte(lines[i]); len(line) > 0 {
				line[d.roll(len(line))] = "0123456789 .ax\n-"[d.roll(16)]
				lines[i] = string(line)
			}
		case 6:
			if words[0] == ".and" && others[0] == ".and" && len(words) > 2 && len(others) > 1 {
				lines[i] = strings.Join([]string{".and", words[1], others[1], words[2]}, " ")
			}
		}
		text = strings.Join(lines, "\n")
	}
	return text
}

// P11.1: many texts, in the order that emit tells and in others, with numbers far apart, and spoilt ones.
func TestAsTold(t *testing.T) {
	counts := map[api.Errno]int{}
	for seed := range 3000 {
		d := dice(seed)
		all := emitted(t, d.net(t, 12, theOptions()[d.roll(4)], false))
		hold(t, all)
		mixed := whole(shuffle(&d, middle(all))...)
		hold(t, mixed)
		hold(t, far(&d, all))
		mixed = far(&d, mixed)
		if _, fault := hold(t, mixed); fault != (api.Fault{}) {
			t.Errorf("%s: fault %v", show(mixed), fault)
		}
		for range 4 {
			_, fault := hold(t, spoil(&d, mixed))
			counts[fault.Code]++
			_, fault = hold(t, spoil(&d, all))
			counts[fault.Code]++
		}
	}
	for _, code := range []api.Errno{api.OK, api.ErrForm, api.ErrThere, api.ErrDriven, api.ErrUndriven, api.ErrLoop} {
		if counts[code] < 100 {
			t.Errorf("only %d texts of %d", counts[code], code)
		}
	}
}

// P11.4: any bytes tell a fault, or a netlist that is well formed.
func TestBytes(t *testing.T) {
	const signs = " \n.\n 0123468aimodelinputlatchandend"
	words := []string{".model", ".input", ".latch", ".and", ".output", ".end", "m", "a", "b", "0", "1", "2", "3", "4", "5", "6", "33554433"}
	for seed := range 3000 {
		d := dice(seed)
		var any, spelt, said strings.Builder
		for range d.roll(60) {
			any.WriteByte(byte(d.roll(256)))
			spelt.WriteByte(signs[d.roll(len(signs))])
			said.WriteString(words[d.roll(len(words))])
			said.WriteByte("   \n"[d.roll(4)])
		}
		for _, s := range []string{any.String(), spelt.String(), said.String(), whole(said.String()), whole(any.String())} {
			hold(t, s)
		}
	}
}

// P11.3: what emit tells of a well formed netlist is read as one that is well formed and like it, and that plays alike.
func TestBack(t *testing.T) {
	for seed := range 3000 {
		d := dice(seed)
		n := d.net(t, 12, theOptions()[d.roll(4)], false)
		all := emitted(t, n)
		m := good(t, all)
		if !read.Like(n, m) || !read.Like(m, n) || m.Name != n.Name || m.Gates() != n.Gates() {
			t.Errorf("seed %d: %s is read as %s", seed, show(all), show(emitted(t, m)))
		}
		if fmt.Sprint(played(t, n)) != fmt.Sprint(played(t, m)) {
			t.Errorf("seed %d: %s plays otherwise", seed, show(all))
		}
		again := emitted(t, m)
		if got := emitted(t, good(t, again)); got != again {
			t.Errorf("seed %d: %s is not itself, read twice: %s", seed, show(again), show(got))
		}
	}
}

// P11.3: with inputs ahead of gates, and registers' behind buses', what is read is the same but for the options.
func TestBackSame(t *testing.T) {
	for seed := range 3000 {
		for _, o := range theOptions() {
			d := dice(seed)
			n := d.net(t, 12, o, true)
			all := emitted(t, n)
			m := good(t, all)
			if got := emitted(t, m); got != all {
				t.Errorf("seed %d: %s is read as %s", seed, show(all), show(got))
			}
			if net.Same(n, m) != (o == aig.Options{}) {
				t.Errorf("seed %d, %v: Same tells %v", seed, o, net.Same(n, m))
			}
		}
	}
}

// P11.4: lines in any other order tell a netlist that plays alike, or a fault of the same kind, if only one is there.
func TestAnyOrder(t *testing.T) {
	counts := map[api.Errno]int{}
	for seed := range 6000 {
		d := dice(seed)
		all := emitted(t, d.net(t, 10, both, false))
		if seed%4 > 0 {
			all = spoil(&d, all)
		}
		if !strings.HasPrefix(all, ".model ") || !strings.HasSuffix(all, "\n.end\n") {
			continue
		}
		n, fault := hold(t, all)
		if l, _ := lines(all); fault.Code != api.ErrForm && len(faults(l)) > 1 {
			continue
		}
		counts[fault.Code]++
		head, _, _ := strings.Cut(all, "\n")
		for range 5 {
			mixed := text(slices.Concat([]string{head}, shuffle(&d, middle(all)), []string{".end"})...)
			m, is := hold(t, mixed)
			if is.Code != fault.Code {
				t.Errorf("seed %d: %s has fault %v, but %s has %v", seed, show(all), fault, show(mixed), is)
			}
			if n != nil && m != nil && fmt.Sprint(played(t, n)) != fmt.Sprint(played(t, m)) {
				t.Errorf("seed %d: %s plays otherwise than %s", seed, show(all), show(mixed))
			}
		}
	}
	for _, code := range []api.Errno{api.OK, api.ErrForm, api.ErrThere, api.ErrDriven, api.ErrUndriven, api.ErrLoop} {
		if counts[code] < 20 {
			t.Errorf("only %d texts of %d", counts[code], code)
		}
	}
}

// small is a netlist with buses a (2 4), b (6), registers 8 and 10, gates 12 and 14, and buses x (12 13), y (1).
func small(t *testing.T, o aig.Options) *net.Net {
	t.Helper()
	n := good(t, whole(".input a 2 4", ".input b 6", ".latch 8 14 6 1", ".latch 10 9 1 0", ".and 12 8 2", ".and 14 12 5", ".output x 12 13", ".output y 1"))
	g := aig.New(o)
	for range 5 {
		_, e := g.Input()
		must(t, e)
	}
	for _, l := range [][2]lit.Lit{{2, 8}, {12, 5}} {
		_, e := g.And(l[0], l[1])
		must(t, e)
	}
	n.Graph = g
	must(t, n.Check())
	return n
}

// P11.2: what may differ, and what may not; the netlists that are handed in stay.
func TestLike(t *testing.T) {
	gate := func(n *net.Net) { _, _ = n.Raw(2, 4) }
	likes := map[string]func(n *net.Net){
		"nothing":           func(n *net.Net) {},
		"the name":          func(n *net.Net) { n.Name = "other" },
		"a gate":            gate,
		"an init":           func(n *net.Net) { n.Regs[0].Init = false },
		"a D":               func(n *net.Net) { n.Regs[1].D = 3 },
		"an En":             func(n *net.Net) { n.Regs[1].En = 3 },
		"registers' order":  func(n *net.Net) { n.Regs[0], n.Regs[1] = n.Regs[1], n.Regs[0] },
		"a register":        func(n *net.Net) { _, _ = n.AddReg(true) },
		"literals":          func(n *net.Net) { n.In[0].Lits[0], n.In[0].Lits[1] = 4, 2 },
		"literals out":      func(n *net.Net) { n.Out[0].Lits[0], n.Out[1].Lits[0] = 7, 8 },
		"a literal and a Q": func(n *net.Net) { n.In[1].Lits[0], n.Regs[0].Q = 8, 6 },
		"all registers":     func(n *net.Net) { *n = *fewer(n) },
	}
	unlikes := map[string]func(n *net.Net){
		"a name in":          func(n *net.Net) { n.In[0].Name = "c" },
		"a name out":         func(n *net.Net) { n.Out[1].Name = "Y" },
		"names in":           func(n *net.Net) { n.In[0].Name, n.In[1].Name = "b", "a" },
		"names out":          func(n *net.Net) { n.Out[0].Name, n.Out[1].Name = "y", "x" },
		"order in":           func(n *net.Net) { n.In[0], n.In[1] = n.In[1], n.In[0] },
		"order out":          func(n *net.Net) { n.Out[0], n.Out[1] = n.Out[1], n.Out[0] },
		"a bus in":           func(n *net.Net) { _, _ = n.AddIn("c", 1) },
		"a bus in, as out":   func(n *net.Net) { _, _ = n.AddIn("x", 2) },
		"a bus out":          func(n *net.Net) { _ = n.AddOut("z", 1) },
		"a bus out, as in":   func(n *net.Net) { _ = n.AddOut("a", 2, 4) },
		"no bus out":         func(n *net.Net) { n.Out = nil },
		"a bus out less":     func(n *net.Net) { n.Out = n.Out[:1] },
		"a width out":        func(n *net.Net) { n.Out[1].Lits = []lit.Lit{1, 1} },
		"a width out, less":  func(n *net.Net) { n.Out[0].Lits = n.Out[0].Lits[:1] },
		"widths in":          func(n *net.Net) { n.In[0].Lits, n.In[1].Lits = n.In[1].Lits, n.In[0].Lits },
		"widths out":         func(n *net.Net) { n.Out[0].Lits, n.Out[1].Lits = n.Out[1].Lits, n.Out[0].Lits },
		"one bus in for two": func(n *net.Net) { n.In = []net.Bus{{Name: "a", Lits: []lit.Lit{2, 4, 6}}} },
		"registers for ins":  func(n *net.Net) { n.In = nil; n.Regs = append(n.Regs, net.Reg{Q: 2}, net.Reg{Q: 4}, net.Reg{Q: 6}) },
		"an input for none":  func(n *net.Net) { _, _ = n.Input() },
		"no graph":           func(n *net.Net) { n.Graph = nil },
		"a graph of none":    func(n *net.Net) { n.Graph = &aig.Graph{} },
		"no name":            func(n *net.Net) { n.Name = "" },
		"a name with a sign": func(n *net.Net) { n.Name = "a.b" },
		"a wide bus":         func(n *net.Net) { n.Out[0].Lits = make([]lit.Lit, 65) },
		"no node":            func(n *net.Net) { n.Out[0].Lits[0] = 99 },
		"a D of no node":     func(n *net.Net) { n.Regs[0].D = math.MaxUint32 },
		"a Q that is a gate": func(n *net.Net) { n.Regs[0].Q = 12 },
		"an input twice":     func(n *net.Net) { n.In[0].Lits[0] = 4 },
		"nothing is left":    func(n *net.Net) { *n = net.Net{} },
	}
	for _, o := range theOptions() {
		wantLike(t, small(t, o), likes, true)
		wantLike(t, small(t, o), unlikes, false)
	}
	if read.Like(nil, nil) || read.Like(nil, small(t, both)) || read.Like(small(t, both), nil) || read.Like(&net.Net{}, &net.Net{}) || read.Like(nil, &net.Net{}) {
		t.Error("none is like something")
	}
	if !read.Like(made(t, "a", both), made(t, "b", aig.Options{})) {
		t.Error("two of no buses are not alike")
	}
}

// fewer is a netlist of the buses of n, without registers.
func fewer(n *net.Net) *net.Net {
	m, _ := net.New("fewer", aig.Options{})
	for _, b := range n.In {
		_, _ = m.AddIn(b.Name, len(b.Lits))
	}
	for _, b := range n.Out {
		_ = m.AddOut(b.Name, make([]lit.Lit, len(b.Lits))...)
	}
	return m
}

// wantLike holds what Like tells of n and each changed one, both ways round; of one that is not well formed it tells false beside itself, too.
func wantLike(t *testing.T, n *net.Net, changes map[string]func(n *net.Net), want bool) {
	t.Helper()
	for what, change := range changes {
		m := n.Copy()
		change(m)
		said, had := fmt.Sprintf("%+v", *m), n.Copy()
		if read.Like(n, m) != want || read.Like(m, n) != want {
			t.Errorf("%s: Like tells %v, %v", what, read.Like(n, m), read.Like(m, n))
		}
		if well := m.Check() == api.OK; read.Like(m, m) != well {
			t.Errorf("%s: Like of itself tells %v", what, !well)
		}
		if !net.Same(n, had) || fmt.Sprintf("%+v", *m) != said {
			t.Errorf("%s: a netlist is changed", what)
		}
	}
}

// P11.1: what is told is new memory: it shares none with the text, with another answer, nor one list of it with another one.
func TestStays(t *testing.T) {
	const all = ".model m\n.input a 2 4\n.input b 6\n.latch 8 14 6 1\n.latch 10 9 1 0\n.and 12 8 2\n.and 14 12 5\n.output x 12 13\n.output y 12 13\n.end\n"
	b := []byte(all)
	n, _ := read.All(b)
	m, _ := read.All(b)
	if string(b) != all || !net.Same(n, m) {
		t.Fatal("the text is changed, or told otherwise again")
	}
	for i := range b {
		b[i] = '#'
	}
	if emitted(t, n) != all || emitted(t, m) != all {
		t.Error("a netlist shares memory with the text")
	}
	for i := range n.In {
		n.In[i].Name = "q"
		for _, buses := range [][]net.Bus{n.In, n.Out} {
			l := buses[i].Lits[:cap(buses[i].Lits)]
			for k := range l {
				l[k] = 99
			}
			had := emitted(t, m)
			if had != all {
				t.Fatal("two answers share memory")
			}
		}
		if i == 0 && (n.In[1].Lits[0] != 6 || !slices.Equal(n.Out[1].Lits, []lit.Lit{12, 13})) {
			t.Error("two lists of an answer share memory")
		}
	}
	n.Regs[0].D = 1
	_, e := n.Raw(2, 2)
	must(t, e)
	if emitted(t, m) != all {
		t.Error("two answers share memory")
	}
	// What is told goes on as any netlist.
	_, e = m.AddIn("c", 3)
	must(t, e)
	must(t, m.AddOut("z", 16, 18, 20))
	must(t, m.SetReg(8, 16, 18))
	if e := m.AddOut("y", 1); e != api.ErrThere {
		t.Errorf("a second bus y: error %d", e)
	}
	must(t, m.Check())
}
