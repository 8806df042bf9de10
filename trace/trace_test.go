package trace_test

import (
	"bytes"
	"fmt"
	"math"
	"slices"
	"strconv"
	"strings"
	"testing"

	"orrery/api"
	"orrery/trace"
)

// spelt is all bytes that may stand in a name.
const spelt = "abcdefghijklmnopqrstuvwxyzABCDEFGHIJKLMNOPQRSTUVWXYZ0123456789_@?"

// long is the most bytes of a name.
const long = api.MaxName + 1

// dice tells the same numbers in each run.
type dice uint64

// roll is a number below n.
func (d *dice) roll(n int) int {
	*d = *d*6364136223846793005 + 1442695040888963407
	return int(uint64(*d) >> 33 % uint64(n))
}

// number is any number of that width; some are the least, some the greatest, some short.
func (d *dice) number(width int) uint64 {
	n := uint64(d.roll(1<<31))<<33 ^ uint64(d.roll(1<<31))<<11 ^ uint64(d.roll(1<<31))
	switch d.roll(6) {
	case 0:
		return 0
	case 1:
		return top(width)
	case 2:
		return n & top(width) >> d.roll(width)
	}
	return n & top(width)
}

// width is any width; some are the least, some the greatest.
func (d *dice) width() int { return []int{1, 64, 2, 8, 1 + d.roll(64)}[d.roll(5)] }

// name is any name, of few bytes, or of the most.
func (d *dice) name() string {
	name := make([]byte, []int{1, 2, 3, 1 + d.roll(long), long}[d.roll(5)])
	for i := range name {
		name[i] = spelt[d.roll(len(spelt))]
	}
	return string(name)
}

// buses is so many of other names each.
func (d *dice) buses(n int) []trace.Bus {
	var buses []trace.Bus
	for len(buses) < n {
		name := d.name()
		if !slices.ContainsFunc(buses, func(b trace.Bus) bool { return b.Name == name }) {
			buses = append(buses, trace.Bus{Name: name, Width: d.width()})
		}
	}
	return buses
}

// table is any table of these buses and so many rows.
func (d *dice) table(rows int, buses ...trace.Bus) trace.Table {
	t := trace.Table{Buses: slices.Clone(buses)}
	for range rows {
		var row []uint64
		for _, b := range buses {
			row = append(row, d.number(b.Width))
		}
		t.Rows = append(t.Rows, row)
	}
	return t
}

// tables is many small ones.
func (d *dice) tables(n int) []trace.Table {
	var l []trace.Table
	for range n {
		l = append(l, d.table(d.roll(5), d.buses(1+d.roll(4))...))
	}
	return l
}

// top is the greatest number of that width.
func top(width int) uint64 { return math.MaxUint64 >> (64 - width) }

// bus is a bus.
func bus(name string, width int) trace.Bus { return trace.Bus{Name: name, Width: width} }

// table is a table of these buses ("x:8 c:1") and rows.
func table(buses string, rows ...[]uint64) trace.Table {
	t := trace.Table{Rows: rows}
	for _, one := range strings.Fields(buses) {
		name, width, _ := strings.Cut(one, ":")
		w, _ := strconv.Atoi(width)
		t.Buses = append(t.Buses, bus(name, w))
	}
	return t
}

// wide is a table of so many buses of 1 bit, and of so many rows of zeros.
func wide(buses, rows int) trace.Table {
	var t trace.Table
	for i := range buses {
		t.Buses = append(t.Buses, bus(fmt.Sprintf("b%d", i), 1))
	}
	for range rows {
		t.Rows = append(t.Rows, make([]uint64, buses))
	}
	return t
}

// copied is a copy of t that shares nothing with it.
func copied(t trace.Table) trace.Table {
	so := trace.Table{Buses: slices.Clone(t.Buses)}
	for _, row := range t.Rows {
		so.Rows = append(so.Rows, slices.Clone(row))
	}
	return so
}

// with is a copy of t, changed.
func with(t trace.Table, change func(t *trace.Table)) trace.Table {
	so := copied(t)
	change(&so)
	return so
}

// isSame tells whether both are one, none and empty being alike.
func isSame(a, b trace.Table) bool {
	return slices.Equal(a.Buses, b.Buses) && slices.EqualFunc(a.Rows, b.Rows, slices.Equal[[]uint64])
}

// isNone tells whether t has nothing.
func isNone(t trace.Table) bool { return len(t.Buses) == 0 && len(t.Rows) == 0 }

// spoil writes over all that rows may reach.
func spoil(rows ...[]uint64) {
	for _, row := range rows {
		row = row[:cap(row)]
		for i := range row {
			row[i] = ^row[i] ^ 0x5a
		}
	}
}

// isTable tells whether t is a table that may be, as the document tells it.
func isTable(t trace.Table) bool {
	if len(t.Buses) == 0 || len(t.Buses) > 512 || len(t.Rows) > 4096 {
		return false
	}
	names := map[string]bool{}
	for _, b := range t.Buses {
		if b.Name == "" || len(b.Name) > 33 || strings.Trim(b.Name, spelt) != "" || names[b.Name] || b.Width < 1 || b.Width > 64 {
			return false
		}
		names[b.Name] = true
	}
	for _, row := range t.Rows {
		if len(row) != len(t.Buses) {
			return false
		}
		for i, n := range row {
			if t.Buses[i].Width < 64 && n >= 1<<t.Buses[i].Width {
				return false
			}
		}
	}
	return true
}

// written is t's text, as the document tells it.
func written(t trace.Table) string {
	var words []string
	for _, b := range t.Buses {
		words = append(words, fmt.Sprintf("%s:%d", b.Name, b.Width))
	}
	text := strings.Join(words, " ") + "\n"
	for _, row := range t.Rows {
		words = nil
		for _, n := range row {
			words = append(words, fmt.Sprintf("%x", n))
		}
		text += strings.Join(words, " ") + "\n"
	}
	return text
}

// told is the table whose text this is, and whether there is one: what it would be is written, and held against it.
func told(text string) (trace.Table, bool) {
	var t trace.Table
	lines := strings.Split(strings.TrimSuffix(text, "\n"), "\n")
	for _, word := range strings.Split(lines[0], " ") {
		name, width, _ := strings.Cut(word, ":")
		w, _ := strconv.Atoi(width)
		t.Buses = append(t.Buses, bus(name, w))
	}
	for _, line := range lines[1:] {
		var row []uint64
		for _, word := range strings.Split(line, " ") {
			n, _ := strconv.ParseUint(word, 16, 64)
			row = append(row, n)
		}
		t.Rows = append(t.Rows, row)
	}
	return t, isTable(t) && written(t) == text
}

// isBegin tells whether a short text is the beginning of some table's text: whether, with one of the ends that could be wanting, it is one.
func isBegin(text string) bool {
	lines := strings.Split(text, "\n")
	ends := []string{"\n", "1\n", ":1\n", "unlike:1\n"}
	// A row may want numbers for all buses that have none there, or for all but the last one that has.
	if wanting := strings.Count(lines[0], ":") - strings.Count(lines[len(lines)-1], " "); len(lines) > 1 && wanting > 0 {
		noughts := strings.Repeat(" 0", wanting) + "\n"
		ends = append(ends, noughts[1:], noughts[2:])
	}
	return slices.ContainsFunc(ends, func(end string) bool {
		_, is := told(text + end)
		return is
	})
}

// want is what Get tells of a short text, as the document tells it.
func want(text string) (trace.Table, api.Errno) {
	if t, is := told(text); is {
		return t, api.OK
	}
	if isBegin(text) {
		return trace.Table{}, api.ErrShort
	}
	return trace.Table{}, api.ErrForm
}

// wantGet holds what Get tells of this text.
func wantGet(t *testing.T, text string, want trace.Table, e api.Errno) {
	t.Helper()
	got, is := trace.Get([]byte(text))
	if is != e || !isSame(got, want) {
		t.Errorf("Get(%.80q) = %v, %d, want %v, %d", text, got, is, want, e)
	}
}

// wantRefused holds Get's error, with which nothing is told.
func wantRefused(t *testing.T, text string, e api.Errno) {
	t.Helper()
	got, is := trace.Get([]byte(text))
	if is != e || !isNone(got) {
		t.Errorf("Get(%.80q), of %d bytes, tells %d buses, %d rows, %d, want none, %d", text, len(text), len(got.Buses), len(got.Rows), is, e)
	}
}

// wantMay holds what May tells.
func wantMay(t *testing.T, one trace.Table, want bool, why string) {
	t.Helper()
	if got := trace.May(one); got != want {
		t.Errorf("%s: May = %v, want %v", why, got, want)
	}
}

// put is Put, where no error may be.
func put(t *testing.T, one trace.Table) string {
	t.Helper()
	text, e := trace.Put(one)
	if e != api.OK {
		t.Fatalf("Put tells error %d", e)
	}
	return string(text)
}

// wrong are tables that may not be, by what is wrong of them.
func wrong() map[string]trace.Table {
	some := table("x:8 c:1", []uint64{31, 1}, []uint64{0, 0})
	return map[string]trace.Table{
		"nothing":                {},
		"no bus":                 {Rows: [][]uint64{{}, {}}},
		"no bus, but numbers":    {Rows: [][]uint64{{1}}},
		"a bus too many":         wide(513, 1),
		"a row too many":         wide(1, 4097),
		"no name":                with(some, func(t *trace.Table) { t.Buses[1].Name = "" }),
		"a name too long":        with(some, func(t *trace.Table) { t.Buses[0].Name = strings.Repeat("x", 34) }),
		"a blank in a name":      with(some, func(t *trace.Table) { t.Buses[0].Name = "x y" }),
		"a colon in a name":      with(some, func(t *trace.Table) { t.Buses[1].Name = "c:" }),
		"a newline in a name":    with(some, func(t *trace.Table) { t.Buses[1].Name = "c\n" }),
		"a sign in a name":       with(some, func(t *trace.Table) { t.Buses[1].Name = "c-d" }),
		"an umlaut in a name":    with(some, func(t *trace.Table) { t.Buses[1].Name = "\u00e4" }),
		"a name twice":           with(some, func(t *trace.Table) { t.Buses[1].Name = "x" }),
		"width 0":                with(some, func(t *trace.Table) { t.Buses[1].Width, t.Rows[0][1] = 0, 0 }),
		"width -1":               with(some, func(t *trace.Table) { t.Buses[1].Width = -1 }),
		"width 65":               with(some, func(t *trace.Table) { t.Buses[0].Width = 65 }),
		"the greatest width":     with(some, func(t *trace.Table) { t.Buses[0].Width = math.MaxInt }),
		"the least width":        with(some, func(t *trace.Table) { t.Buses[0].Width = math.MinInt }),
		"a number too great":     with(some, func(t *trace.Table) { t.Rows[0][0] = 256 }),
		"the last too great":     with(some, func(t *trace.Table) { t.Rows[1][1] = 2 }),
		"all ones":               with(some, func(t *trace.Table) { t.Rows[1][0] = math.MaxUint64 }),
		"a number too few":       with(some, func(t *trace.Table) { t.Rows[0] = []uint64{31} }),
		"a number too many":      with(some, func(t *trace.Table) { t.Rows[0] = []uint64{31, 1, 0} }),
		"the last row too short": with(some, func(t *trace.Table) { t.Rows[1] = []uint64{0} }),
		"the last row too long":  with(some, func(t *trace.Table) { t.Rows[1] = []uint64{0, 0, 0} }),
		"a row of none":          with(some, func(t *trace.Table) { t.Rows[1] = nil }),
		"a row for no bus":       {Rows: [][]uint64{nil}},
	}
}

// P9.1: the limits.
func TestLimits(t *testing.T) {
	if trace.MaxBuses != 512 || trace.MaxRows != 4096 {
		t.Errorf("MaxBuses, MaxRows = %d, %d", trace.MaxBuses, trace.MaxRows)
	}
}

// P9.1: names of 1 to MaxName + 1 bytes may be, shorter and longer ones not.
func TestMayNameLength(t *testing.T) {
	for n := range 100 {
		one := trace.Table{Buses: []trace.Bus{bus(strings.Repeat("x", n), 8)}}
		wantMay(t, one, n >= 1 && n <= api.MaxName+1, fmt.Sprintf("a name of %d bytes", n))
	}
	wantMay(t, trace.Table{Buses: []trace.Bus{bus(strings.Repeat("x", 1<<16), 8)}}, false, "a name of 65536 bytes")
}

// P9.1: each byte, as the only one, the first, one in the midst, and the last one.
func TestMayNameBytes(t *testing.T) {
	for c := range 256 {
		one := string([]byte{byte(c)})
		may := strings.Contains(spelt, one)
		for _, name := range []string{one, one + "x", "x" + one + "x", "x" + one, strings.Repeat(one, 33), strings.Repeat("x", 32) + one} {
			wantMay(t, trace.Table{Buses: []trace.Bus{bus(name, 1)}}, may, fmt.Sprintf("name %q", name))
			wantMay(t, trace.Table{Buses: []trace.Bus{bus("first", 1), bus(name, 1)}}, may, fmt.Sprintf("second name %q", name))
		}
	}
	for _, name := range []string{"\u00e4", "\u017f", "\u212a", "\uff10", "\u0660", "x\u0301"} {
		wantMay(t, trace.Table{Buses: []trace.Bus{bus(name, 1)}}, false, fmt.Sprintf("name %q", name))
	}
}

// P9.1: no two buses have one name; one more byte, or another case, makes another one.
func TestMayNamesTwice(t *testing.T) {
	for n := 2; n <= 6; n++ {
		for i := range n {
			for k := range n {
				one := wide(n, 1)
				one.Buses[i].Name = one.Buses[k].Name
				one.Buses[i].Width = 2
				wantMay(t, one, i == k, fmt.Sprintf("of %d buses %d and %d are of one name", n, i, k))
			}
		}
	}
	far := wide(512, 1)
	wantMay(t, far, true, "512 buses")
	far.Buses[511].Name = far.Buses[0].Name
	wantMay(t, far, false, "the first and the last one of 512 are of one name")
	wantMay(t, table("x:1 X:1 xx:1 x_:1 x@:1 x?:1 _x:1 0:1 00:1"), true, "names that are almost alike")
	full := strings.Repeat("n", 32)
	wantMay(t, trace.Table{Buses: []trace.Bus{bus(full+"a", 1), bus(full+"b", 1), bus(full, 1)}}, true, "names that differ in the last byte")
}

// P9.1: widths of 1 to 64 may be.
func TestMayWidth(t *testing.T) {
	for w := -70; w <= 140; w++ {
		may := w >= 1 && w <= 64
		wantMay(t, trace.Table{Buses: []trace.Bus{bus("x", w)}}, may, fmt.Sprintf("width %d", w))
		wantMay(t, trace.Table{Buses: []trace.Bus{bus("a", 8), bus("x", w)}, Rows: [][]uint64{{0, 0}}}, may, fmt.Sprintf("second width %d", w))
	}
	for _, w := range []int{math.MinInt, math.MinInt32, 1 << 8, 1<<8 + 1, 1<<16 + 1, 1<<32 + 1, math.MaxInt} {
		wantMay(t, trace.Table{Buses: []trace.Bus{bus("x", w)}}, false, fmt.Sprintf("width %d", w))
	}
}

// P9.1: at each width the numbers below 2^width may be, in each row and bus.
func TestMayNumbers(t *testing.T) {
	for w := 1; w <= 64; w++ {
		for row := range 3 {
			for at := range 3 {
				set := func(n uint64) trace.Table {
					one := table("a:64 b:64 c:64", []uint64{1, 1, 1}, []uint64{0, 0, 0}, []uint64{1, 0, 1})
					one.Buses[at].Width = w
					one.Rows[row][at] = n
					return one
				}
				for _, n := range []uint64{0, 1, top(w) / 2, top(w) - 1, top(w)} {
					wantMay(t, set(n), true, fmt.Sprintf("%d of %d bits", n, w))
				}
				for _, n := range []uint64{top(w) + 1, top(w) + 2, 2*top(w) + 1, 1 << 63, math.MaxUint64} {
					wantMay(t, set(n), w == 64, fmt.Sprintf("%d of %d bits", n, w))
				}
			}
		}
	}
}

// P9.1: each row has just as many numbers as there are buses.
func TestMayRowLength(t *testing.T) {
	for buses := 1; buses <= 4; buses++ {
		for row := range 3 {
			for n := range 7 {
				one := wide(buses, 3)
				one.Rows[row] = make([]uint64, n)
				wantMay(t, one, n == buses, fmt.Sprintf("%d numbers of %d buses", n, buses))
			}
		}
	}
}

// P9.1: how many buses and rows may be; and whatever is wrong may not be.
func TestMayCounts(t *testing.T) {
	for _, x := range []struct {
		buses, rows int
		may         bool
	}{
		{0, 0, false}, {0, 1, false}, {0, 4096, false}, {1, 0, true}, {1, 1, true}, {2, 0, true}, {511, 2, true},
		{512, 0, true}, {512, 3, true}, {513, 0, false}, {513, 1, false}, {1024, 0, false}, {3, 4095, true},
		{1, 4096, true}, {3, 4096, true}, {1, 4097, false}, {3, 4097, false}, {1, 1 << 16, false}, {512, 4096, true},
	} {
		wantMay(t, wide(x.buses, x.rows), x.may, fmt.Sprintf("%d buses, %d rows", x.buses, x.rows))
	}
	for why, one := range wrong() {
		wantMay(t, one, false, why)
	}
	d := dice(1)
	for _, one := range d.tables(200) {
		wantMay(t, one, true, written(one))
	}
}

// P9.1: Same tells whether both have the same buses, in their order, and rows.
func TestSame(t *testing.T) {
	some := table("x:8 c:1", []uint64{31, 1}, []uint64{0, 0})
	others := map[string]trace.Table{
		"other order of buses":  table("c:1 x:8", []uint64{31, 1}, []uint64{0, 0}),
		"other order of all":    table("c:1 x:8", []uint64{1, 31}, []uint64{0, 0}),
		"another name":          table("y:8 c:1", []uint64{31, 1}, []uint64{0, 0}),
		"another case":          table("X:8 c:1", []uint64{31, 1}, []uint64{0, 0}),
		"another width":         table("x:9 c:1", []uint64{31, 1}, []uint64{0, 0}),
		"a bus more":            table("x:8 c:1 d:1", []uint64{31, 1}, []uint64{0, 0}),
		"a bus less":            table("x:8", []uint64{31, 1}, []uint64{0, 0}),
		"a row more":            table("x:8 c:1", []uint64{31, 1}, []uint64{0, 0}, []uint64{0, 0}),
		"a row less":            table("x:8 c:1", []uint64{31, 1}),
		"no rows":               table("x:8 c:1"),
		"other order of rows":   table("x:8 c:1", []uint64{0, 0}, []uint64{31, 1}),
		"another first number":  table("x:8 c:1", []uint64{30, 1}, []uint64{0, 0}),
		"another last number":   table("x:8 c:1", []uint64{31, 1}, []uint64{0, 1}),
		"a number less":         table("x:8 c:1", []uint64{31, 1}, []uint64{0}),
		"rows, put differently": table("x:8 c:1", []uint64{31}, []uint64{1, 0, 0}),
		"nothing":               {},
	}
	if !trace.Same(some, some) || !trace.Same(some, copied(some)) {
		t.Error("a table is not the same as itself")
	}
	for why, other := range others {
		if trace.Same(some, other) || trace.Same(other, some) {
			t.Errorf("Same of one with %s", why)
		}
	}
	for why, one := range wrong() {
		if !trace.Same(one, copied(one)) {
			t.Errorf("%s: it has the same buses and rows as a copy of it", why)
		}
	}
}

// P9.1: none and empty are one to Same and May.
func TestNoneAndEmpty(t *testing.T) {
	x := []trace.Bus{bus("x", 8)}
	if !trace.Same(trace.Table{Buses: x}, trace.Table{Buses: x, Rows: [][]uint64{}}) {
		t.Error("no rows differ from no rows")
	}
	if !trace.Same(trace.Table{}, trace.Table{Buses: []trace.Bus{}, Rows: [][]uint64{}}) {
		t.Error("no buses differ from no buses")
	}
	if !trace.Same(trace.Table{Rows: [][]uint64{nil}}, trace.Table{Rows: [][]uint64{{}}}) {
		t.Error("a row of none differs from a row of none")
	}
	wantMay(t, trace.Table{Buses: x, Rows: [][]uint64{}}, true, "no rows")
	wantMay(t, trace.Table{Buses: []trace.Bus{}}, false, "no buses")
}

// P9.2: the document's examples.
func TestExamples(t *testing.T) {
	some := table("x:8 c:1", []uint64{31, 1}, []uint64{0, 0})
	text := "x:8 c:1\n1f 1\n0 0\n"
	if got := put(t, some); got != text {
		t.Errorf("Put = %q, want %q", got, text)
	}
	wantGet(t, text, some, api.OK)
	wantRefused(t, text[:len(text)-1], api.ErrShort)
	wantRefused(t, "x:8\n01\n", api.ErrForm)
}

// P9.2: Put's text is the document's, of any tables, and of those at the edges.
func TestPut(t *testing.T) {
	d := dice(2)
	l := d.tables(500)
	l = append(l, d.table(6, d.buses(40)...), d.table(300, d.buses(2)...), wide(512, 2), wide(1, 4096), wide(512, 0))
	for w := 1; w <= 64; w++ {
		one := table(fmt.Sprintf("w:%d", w))
		for n := uint64(1); n != 0 && n <= top(w); n *= 2 {
			one.Rows = append(one.Rows, []uint64{n - 1}, []uint64{n})
		}
		l = append(l, with(one, func(t *trace.Table) { t.Rows = append(t.Rows, []uint64{top(w)}) }))
	}
	for _, one := range l {
		if got, text := put(t, one), written(one); got != text {
			t.Errorf("Put = %.200q, want %.200q", got, text)
		}
	}
}

// P9.2: Put writes all digits, and all bytes of names.
func TestPutDigits(t *testing.T) {
	one := table("u_@?Z09:64", []uint64{0x0123456789abcdef}, []uint64{0xfedcba9876543210}, []uint64{math.MaxUint64}, []uint64{0}, []uint64{16})
	text := "u_@?Z09:64\n123456789abcdef\nfedcba9876543210\nffffffffffffffff\n0\n10\n"
	if got := put(t, one); got != text {
		t.Errorf("Put = %q, want %q", got, text)
	}
	wantGet(t, text, one, api.OK)
}

// P9.2: Put of a table that may not be is refused.
func TestPutRefused(t *testing.T) {
	for why, one := range wrong() {
		if text, e := trace.Put(one); e != api.ErrArg || len(text) != 0 {
			t.Errorf("%s: Put = %.80q, %d, want none, %d", why, text, e, api.ErrArg)
		}
	}
}

// P9.2: texts that are one, that are cut, and that are neither, each wrong in one thing.
func TestGet(t *testing.T) {
	for _, text := range []string{
		"x:1\n", "x:64\n", "?:9\n", "x:1 y:2\n", "0:10\n", "x:10 y:60\n", "x:1\n0\n1\n", "x:4\nf\n0\na\n9\n", "x:5\n10\n1f\n",
		"x:64\nffffffffffffffff\n", "x:63\n7fffffffffffffff\n", "x:64 y:64\n8000000000000000 1\n", "a:1 b:1 c:1\n0 1 0\n", "f:8\nff\n",
	} {
		one, is := told(text)
		if !is {
			t.Fatalf("%q is no text", text)
		}
		wantGet(t, text, one, api.OK)
	}
	for _, text := range []string{
		"", "x", "xy", "x:", "x:1", "x:6", "x:64", "x:1 ", "x:1 y", "x:1 x", "x:1 y:", "x:1 y:6", "x:1 y:64", "@", "_?",
		"x:8\n0", "x:8\n1", "x:8\nf", "x:8\nff", "x:8 y:1\n0", "x:8 y:1\n0 ", "x:8 y:1\n0 1", "x:8\n0\n1", "x:1\n1", "x:64\nffffffffffffffff",
		strings.Repeat("x", 33), strings.Repeat("x", 33) + ":", "x:1 " + strings.Repeat("x", 33),
	} {
		wantRefused(t, text, api.ErrShort)
	}
	for _, text := range []string{
		"\n", " ", ":", ":1", ":1\n", "-", "x y", "x\n", "x ", " x:1\n", "x :1\n", "x: 1\n", "x::1\n", "x:1:\n", "x:\n", "x: ", "x:0", "x:00",
		"x:01", "x:001", "x:65", "x:70", "x:641", "x:100", "x:+", "x:-1", "x:a", "x:1a", "x:1\t", "x:1\r", "x:1\r\n", "x:1  ", "x:1 \n", "x:1 :",
		"x:1 y\n", "x:1 x:", "x:1 x:1\n", "x:1 y:1 x:", "x:1;", "x:4294967297\n", "x:18446744073709551617\n", "x-:1\n", "x\u00e4", "x:\u0661",
		"x:8\n\n", "x:8\n ", "x:8\n 1\n", "x:8\n1 ", "x:8\n1 1\n", "x:8\n1 \n", "x:8\n00", "x:8\n01", "x:8\n0f", "x:8\n100", "x:8\n1ff", "x:8\nF", "x:8\nfF",
		"x:8\nA\n", "x:8\ng", "x:8\n+", "x:8\n+1\n", "x:8\n-1\n", "x:8\n0x", "x:8\n1\r", "x:8\n1\t", "x:8\n1_0\n", "x:8\n1\n\n", "x:8\n1\n \n", "x:8\n1\n2 ",
		"x:8 y:8\n1\n", "x:8 y:8\n1 2 ", "x:8 y:8\n1 2 3\n", "x:8 y:8\n1  2\n", "x:8 y:8\n1\t2\n", "x:8 y:8\n1,2\n", "x:8 y:8\n1 \n", "x:8 y:8\n 1 2\n",
		"x:1\n2", "x:2\n4", "x:3\n8", "x:3\nf", "x:4\n10", "x:5\n20", "x:63\n8000000000000000", "x:63\nffffffffffffffff", "x:64\n10000000000000000",
		"x:64\nfffffffffffffffff", "x:64\n100000000000000000000000000000001", "x:64 y:1\n1 2", "x:1 y:64\n2 1\n", "x:8\n1\nx:8\n", "x:8\n1\n#", "x:8\n1\x00",
		strings.Repeat("x", 34), strings.Repeat("x", 34) + ":1\n", "x:1 " + strings.Repeat("x", 34), "\xff", "x:8\n\xff", "\ufeffx:1\n", "x:8\n1\n\x1a",
	} {
		wantRefused(t, text, api.ErrForm)
	}
}

// P9.2, P9.5: at each width the greatest number may be, one more not; noughts in front may not be.
func TestGetNumbers(t *testing.T) {
	for w := 1; w <= 64; w++ {
		head := fmt.Sprintf("x:%d\n", w)
		for n := uint64(1); n != 0 && n <= top(w); n *= 2 {
			for _, n := range []uint64{n - 1, n, top(w) - (n - 1), top(w)} {
				wantGet(t, fmt.Sprintf("%s%x\n", head, n), table(head, []uint64{n}), api.OK)
				wantRefused(t, fmt.Sprintf("%s%x", head, n), api.ErrShort)
				wantRefused(t, fmt.Sprintf("%s0%x", head, n), api.ErrForm)
				wantRefused(t, fmt.Sprintf("%s%x ", head, n), api.ErrForm)
			}
		}
		over := "1" + strings.Repeat("0", 16)
		if w < 64 {
			over = fmt.Sprintf("%x", top(w)+1)
		}
		wantRefused(t, head+over, api.ErrForm)
		wantRefused(t, fmt.Sprintf("%s%x0", head, top(w)), api.ErrForm)
	}
}

// P9.2: widths from 1 to 64 in their shortest form.
func TestGetWidths(t *testing.T) {
	for w := range 1200 {
		text := fmt.Sprintf("a:3 x:%d", w)
		if w < 1 || w > 64 {
			wantRefused(t, text, api.ErrForm)
			wantRefused(t, text+"\n", api.ErrForm)
			continue
		}
		wantRefused(t, text, api.ErrShort)
		wantRefused(t, text+" ", api.ErrShort)
		wantGet(t, text+"\n", table(text), api.OK)
		wantRefused(t, fmt.Sprintf("a:3 x:0%d\n", w), api.ErrForm)
	}
}

// P9.2: each byte, in the midst of a name, as a digit of a width and of a number, between words, at a line's end.
func TestGetBytes(t *testing.T) {
	for c := range 256 {
		for _, text := range []string{"%s", "x%s", "x:%s", "x:1%s", "x:1 %s", "x:1\n%s", "x:8\n1%s", "x:8 y:8\n1 %s", "x:8 y:8\n1%s", "x:8\n1\n%s", "x:8 y:8\n1 2%s", "%s:1\n", "x:1 a%sb:1\n", "x:1%sy:1\n", "x:8\n1%s2\n", "x:8%s\n1\n", "x:8 y:8\n1%s2\n"} {
			text = fmt.Sprintf(text, string([]byte{byte(c)}))
			one, e := want(text)
			wantGet(t, text, one, e)
		}
	}
}

// P9.2: all texts of some bytes that are a table's, or the beginning of one, and all that have one byte more.
func TestGetEvery(t *testing.T) {
	many := map[api.Errno]int{}
	var on func(text string, more int)
	on = func(text string, more int) {
		one, e := want(text)
		wantGet(t, text, one, e)
		many[e]++
		if e == api.ErrForm || more == 0 {
			return
		}
		for _, c := range "ab:0146fF \n+" {
			on(text+string(c), more-1)
		}
	}
	on("", 6)
	on("a:5 b:2\n", 5)
	on("a:1 b:4\n1 4\n", 4)
	on("a:1\n1\n0", 4)
	if many[api.OK] < 1000 || many[api.ErrShort] < 1000 || many[api.ErrForm] < 1000 {
		t.Errorf("too few texts of a kind: %v", many)
	}
}

// P9.2: texts of tables in which some bytes are others, are left out, or come twice.
func TestGetSpoiled(t *testing.T) {
	d := dice(3)
	many := map[api.Errno]int{}
	for _, one := range d.tables(400) {
		text := written(one)
		for range 60 {
			b := []byte(text)
			for range 1 + d.roll(2) {
				at := d.roll(len(b))
				switch d.roll(4) {
				case 0:
					b[at] = "ax:019fFA \n@?-"[d.roll(14)]
				case 1:
					b = slices.Delete(b, at, min(at+1+d.roll(2), len(b)))
				case 2:
					b = slices.Insert(b, at, "ax:019fFA \n@?-"[d.roll(14)])
				case 3:
					b = b[:at+1]
				}
				if len(b) == 0 {
					break
				}
			}
			one, e := want(string(b))
			wantGet(t, string(b), one, e)
			many[e]++
		}
	}
	if many[api.OK] < 500 || many[api.ErrShort] < 500 || many[api.ErrForm] < 500 {
		t.Errorf("too few texts of a kind: %v", many)
	}
}

// P9.2: a last name that is cut counts as one that no bus has yet, also where it has the most bytes; with its colon it is none that is cut.
func TestGetCutName(t *testing.T) {
	full := strings.Repeat("n", 33)
	for _, name := range []string{"x", "xy", full} {
		wantRefused(t, name+":1 "+name, api.ErrShort)
		wantRefused(t, name+":1 other:8 "+name, api.ErrShort)
		wantRefused(t, name+":1 "+name+":", api.ErrForm)
		wantRefused(t, name+":1 other:8 "+name+":", api.ErrForm)
		wantRefused(t, name+":1 other:8 "+name+":1\n", api.ErrForm)
		wantRefused(t, name+":1 other:8 "+name+" ", api.ErrForm)
		wantRefused(t, name+":1 other:8 "+name+"\n", api.ErrForm)
	}
	wantRefused(t, full+":1 "+full+"n", api.ErrForm)
	wantRefused(t, full+":1 "+full[1:]+":", api.ErrShort)
	wantGet(t, full+":1 "+full[1:]+":1\n", trace.Table{Buses: []trace.Bus{bus(full, 1), bus(full[1:], 1)}}, api.OK)
	wantRefused(t, "x:1 x:1 y", api.ErrForm)
}

// P9.2: texts that are wrong early and cut late are wrong.
func TestGetWrongThenCut(t *testing.T) {
	for _, text := range []string{
		"x:0 y:8 ", "x:65 y", "x:08\n1", "x:8 x:8\n1 2\n3", "x:8  y:8\n1", "x:8 y:8 \n1 2", "x:8\n01\n2", "x:8\n100\n1", "x:8\n1\n\n1", "x:8\n1 2\n3",
		"x:8 y:8\n1\n2", "x:8\nF\n1", "x\n", "x-:8\n1", ":8\n1", "x:8\r\n1", strings.Repeat("x", 34) + ":8\n1", "x:8\n-1\n1", "x:1\n2\n1",
	} {
		wantRefused(t, text, api.ErrForm)
	}
}

// P9.2: how many buses and rows a text may have; one more is wrong with its first byte.
func TestGetCounts(t *testing.T) {
	head := written(wide(512, 0))
	wantGet(t, head, wide(512, 0), api.OK)
	wantRefused(t, head[:len(head)-1], api.ErrShort)
	wantRefused(t, head[:len(head)-2], api.ErrShort)
	wantRefused(t, head[:len(head)-1]+"2", api.ErrShort)
	wantRefused(t, head[:len(head)-1]+" ", api.ErrForm)
	wantRefused(t, head[:len(head)-1]+" x", api.ErrForm)
	wantRefused(t, head[:len(head)-1]+" x:1\n", api.ErrForm)
	shorter := written(wide(511, 0))
	wantRefused(t, shorter[:len(shorter)-1]+" ", api.ErrShort)
	wantRefused(t, shorter[:len(shorter)-1]+" x", api.ErrShort)
	wantRefused(t, written(wide(513, 0)), api.ErrForm)
	wantRefused(t, written(wide(513, 1)), api.ErrForm)

	rows := "x:1\n" + strings.Repeat("1\n", 4096)
	all := table("x:1")
	for range 4096 {
		all.Rows = append(all.Rows, []uint64{1})
	}
	wantGet(t, rows, all, api.OK)
	wantRefused(t, rows[:len(rows)-1], api.ErrShort)
	for _, more := range []string{"0", "1", "1\n", "\n", " ", "x", "1\n1"} {
		wantRefused(t, rows+more, api.ErrForm)
	}
	wantRefused(t, rows[:len(rows)-2]+"1", api.ErrShort)
}

// filled is a table whose text has just so many bytes: all of 512 buses of 64 bits, and rows of numbers of all lengths.
func filled(t *testing.T, size int) (trace.Table, string) {
	t.Helper()
	var one trace.Table
	var text bytes.Buffer
	for i := range 512 {
		one.Buses = append(one.Buses, bus(fmt.Sprintf("b%03d", i), 64))
		text.WriteString(fmt.Sprintf("b%03d:64%c", i, " \n"[i/511]))
	}
	for size > text.Len() {
		// A row has at least 1024 bytes, and at most 8704; the last two share what is left.
		left := size - text.Len()
		if left > 8704 {
			left = min(8704, left-1024)
		}
		digits := left - 512
		var row []uint64
		for i := range 512 {
			share := digits / (512 - i)
			digits -= share
			n := uint64(1)<<(4*(share-1)) + uint64(i%8)
			row = append(row, n)
			text.WriteString(fmt.Sprintf("%x%c", n, " \n"[i/511]))
		}
		one.Rows = append(one.Rows, row)
	}
	if text.Len() != size || !isTable(one) {
		t.Fatalf("a text of %d bytes, not of %d", text.Len(), size)
	}
	return one, text.String()
}

// P9.2: a text of MaxText bytes is read; one more is ErrLong, whatever it is.
func TestGetLong(t *testing.T) {
	one, text := filled(t, api.MaxText)
	if got := put(t, one); got != text {
		t.Errorf("Put of a table of many bytes tells %d others", len(got))
	}
	got, e := trace.Get([]byte(text))
	if e != api.OK || !isSame(got, one) {
		t.Errorf("Get of MaxText bytes tells %d rows, %d", len(got.Rows), e)
	}
	wantRefused(t, text[:api.MaxText-1], api.ErrShort)
	wantRefused(t, text[:api.MaxText-1]+" ", api.ErrForm)
	wantRefused(t, text+"0", api.ErrLong)
	wantRefused(t, text+"x", api.ErrLong)
	wantRefused(t, strings.Repeat("\n", api.MaxText), api.ErrForm)
	wantRefused(t, strings.Repeat("\n", api.MaxText+1), api.ErrLong)
	wantRefused(t, strings.Repeat("x", api.MaxText+1), api.ErrLong)

	one, text = filled(t, api.MaxText+1)
	if got := put(t, one); got != text {
		t.Errorf("Put of a table of more than MaxText bytes tells %d others", len(got))
	}
	wantRefused(t, text, api.ErrLong)
	wantRefused(t, text[:api.MaxText], api.ErrShort)
}

// P9.5: Get of Put is the table; Put of what Get tells is the text.
func TestThereAndBack(t *testing.T) {
	d := dice(4)
	l := d.tables(500)
	l = append(l, d.table(4096, d.buses(1)...), d.table(20, d.buses(512)...), d.table(200, d.buses(64)...))
	for _, one := range l {
		text := put(t, one)
		got, e := trace.Get([]byte(text))
		if e != api.OK || !isSame(got, one) || !trace.Same(got, one) || !trace.May(got) {
			t.Errorf("Get of Put of %.100q tells %d rows, %d", text, len(got.Rows), e)
			continue
		}
		if again := put(t, got); again != text {
			t.Errorf("Put of Get = %.100q, want %.100q", again, text)
		}
	}
}

// P9.5: cut short anywhere a table's text is a table's of fewer rows, or ErrShort.
func TestCutAnywhere(t *testing.T) {
	d := dice(5)
	l := d.tables(150)
	l = append(l, d.table(3, d.buses(30)...), d.table(60, d.buses(2)...), table("a:64 b:1", []uint64{math.MaxUint64, 1}, []uint64{0, 0}))
	for _, one := range l {
		text := put(t, one)
		for at := range len(text) {
			rows := strings.Count(text[:at], "\n") - 1
			if rows >= 0 && text[at-1] == '\n' {
				wantGet(t, text[:at], trace.Table{Buses: one.Buses, Rows: one.Rows[:rows]}, api.OK)
			} else {
				wantRefused(t, text[:at], api.ErrShort)
			}
		}
	}
}

// P9.3: the numbers of each bus, row by row.
func TestColumn(t *testing.T) {
	d := dice(6)
	l := d.tables(200)
	l = append(l, d.table(2, d.buses(512)...), d.table(4096, d.buses(3)...))
	for _, one := range l {
		for i, b := range one.Buses {
			var want []uint64
			for _, row := range one.Rows {
				want = append(want, row[i])
			}
			if got, is := trace.Column(one, b.Name); !is || !slices.Equal(got, want) {
				t.Errorf("Column of bus %d = %v, %v, want %v", i, got, is, want)
			}
		}
	}
}

// P9.3: of a name that no bus has, and of a table that may not be, there is no column.
func TestColumnNone(t *testing.T) {
	some := table("x:8 cd:1", []uint64{31, 1}, []uint64{0, 0})
	for _, name := range []string{"", "y", "X", "xx", "x:8", "x ", "c", "d", "cd?", "cd:1", strings.Repeat("x", 100)} {
		if got, is := trace.Column(some, name); is || len(got) != 0 {
			t.Errorf("Column of %q = %v, %v", name, got, is)
		}
	}
	if got, is := trace.Column(table("x:8"), "x"); !is || len(got) != 0 {
		t.Errorf("Column of no rows = %v, %v", got, is)
	}
	for why, one := range wrong() {
		for _, b := range append([]trace.Bus{bus("x", 8), bus("c", 1), bus("", 1)}, one.Buses...) {
			if got, is := trace.Column(one, b.Name); is || len(got) != 0 {
				t.Errorf("%s: Column of %q = %v, %v", why, b.Name, got, is)
			}
		}
	}
}

// wantDiffer holds what Differ tells, both ways round.
func wantDiffer(t *testing.T, a, b trace.Table, row, bus int, differs bool) {
	t.Helper()
	for _, x := range [][2]trace.Table{{a, b}, {b, a}} {
		if r, c, is := trace.Differ(x[0], x[1]); r != row || c != bus || is != differs {
			t.Errorf("Differ of %.60q and %.60q = %d, %d, %v, want %d, %d, %v", written(x[0]), written(x[1]), r, c, is, row, bus, differs)
		}
	}
}

// P9.3: the first row and bus in which two tables of the same buses differ, whatever comes behind.
func TestDiffer(t *testing.T) {
	some := dice(7)
	a := some.table(5, bus("x", 8), bus("c", 1), bus("n", 64))
	wantDiffer(t, a, a, 0, 0, false)
	wantDiffer(t, a, copied(a), 0, 0, false)
	for row := range a.Rows {
		for at := range a.Buses {
			b := copied(a)
			b.Rows[row][at] ^= 1
			wantDiffer(t, a, b, row, at, true)
			if row+1 < len(b.Rows) {
				b.Rows[row+1][0] ^= 1
				wantDiffer(t, a, b, row, at, true)
			}
			if at+1 < len(b.Buses) {
				b.Rows[row][at+1] ^= 1
				wantDiffer(t, a, b, row, at, true)
			}
			// Also where the other one has fewer rows, or more, that differ only behind.
			b.Rows = b.Rows[:row+1]
			wantDiffer(t, a, b, row, at, true)
		}
	}
	high := copied(a)
	high.Rows[2][2] ^= 1 << 63
	wantDiffer(t, a, high, 2, 2, true)
}

// P9.3: of two tables of which one has more rows, the first one that the other has not, and bus 0.
func TestDifferMoreRows(t *testing.T) {
	d := dice(8)
	a := d.table(5, bus("x", 8), bus("c", 1))
	for rows := range a.Rows {
		b := copied(a)
		b.Rows = b.Rows[:rows]
		wantDiffer(t, a, b, rows, 0, true)
	}
	wantDiffer(t, table("x:1"), table("x:1", []uint64{0}), 0, 0, true)
	wantDiffer(t, table("x:1"), table("x:1"), 0, 0, false)
	wantDiffer(t, table("x:1"), trace.Table{Buses: []trace.Bus{bus("x", 1)}, Rows: [][]uint64{}}, 0, 0, false)
	wantDiffer(t, wide(2, 4096), wide(2, 4095), 4095, 0, true)
}

// P9.3: tables of other buses differ at 0, 0, and so do those that may not be, also from themselves.
func TestDifferOthers(t *testing.T) {
	a := table("x:8 c:1", []uint64{31, 1}, []uint64{0, 0})
	for _, buses := range []string{"y:8 c:1", "x:8 d:1", "X:8 c:1", "x:7 c:1", "x:8 c:2", "c:1 x:8"} {
		b := table(buses, a.Rows...)
		wantDiffer(t, a, b, 0, 0, true)
		b.Rows = nil
		wantDiffer(t, a, b, 0, 0, true)
	}
	wantDiffer(t, a, table("x:8", []uint64{31}, []uint64{1}), 0, 0, true)
	wantDiffer(t, a, table("x:8 c:1 d:1", []uint64{31, 1, 0}, []uint64{0, 1, 0}), 0, 0, true)
	for _, one := range wrong() {
		wantDiffer(t, a, one, 0, 0, true)
		wantDiffer(t, one, one, 0, 0, true)
		wantDiffer(t, one, trace.Table{Buses: one.Buses}, 0, 0, true)
	}
	late := with(a, func(t *trace.Table) { t.Rows[1][1] = 2 })
	wantDiffer(t, a, late, 0, 0, true)
}

// small tells all tables of buses of 1 bit, of up to two buses and two rows, and some others.
func small() []trace.Table {
	l := []trace.Table{table("a:2"), table("b:1"), table("b:1 a:1"), table("a:2", []uint64{1}), table("b:1 a:1", []uint64{0, 1})}
	for rows := range 3 {
		for code := range 1 << rows {
			one := table("a:1")
			for i := range rows {
				one.Rows = append(one.Rows, []uint64{uint64(code >> i & 1)})
			}
			l = append(l, one)
		}
		for code := range 1 << (2 * rows) {
			one := table("a:1 b:1")
			for i := range rows {
				one.Rows = append(one.Rows, []uint64{uint64(code >> (2 * i) & 1), uint64(code >> (2*i + 1) & 1)})
			}
			l = append(l, one)
		}
	}
	return l
}

// P9.6: Differ tells nothing just if both are the same.
func TestDifferIsNotSame(t *testing.T) {
	for _, a := range small() {
		for _, b := range small() {
			row, at, differs := trace.Differ(a, b)
			if same := trace.Same(a, b); differs == same || same != isSame(a, b) {
				t.Errorf("%q, %q: Differ %v, Same %v", written(a), written(b), differs, same)
			}
			if !differs && (row != 0 || at != 0) {
				t.Errorf("%q, %q: Differ = %d, %d, false", written(a), written(b), row, at)
			}
		}
	}
}

// lane is what that lane has, bit by bit.
func lane(l []uint64, k int) uint64 {
	n := uint64(0)
	for i, bits := range l {
		n |= bits >> k & 1 << i
	}
	return n
}

// wantPack holds what Pack tells, lane by lane.
func wantPack(t *testing.T, row int, l ...trace.Table) {
	t.Helper()
	got, e := trace.Pack(row, l...)
	if e != api.OK || len(got) != len(l[0].Buses) {
		t.Errorf("Pack(%d, %d tables) tells %d buses, %d", row, len(l), len(got), e)
		return
	}
	for i, b := range l[0].Buses {
		if len(got[i]) != b.Width {
			t.Errorf("Pack(%d, %d tables): %d numbers of %d bits", row, len(l), len(got[i]), b.Width)
			continue
		}
		for k := range 64 {
			want := uint64(0)
			if k < len(l) && row < len(l[k].Rows) {
				want = l[k].Rows[row][i]
			}
			if n := lane(got[i], k); n != want {
				t.Errorf("Pack(%d, %d tables): lane %d of bus %d has %d, want %d", row, len(l), k, i, n, want)
			}
		}
	}
}

// P9.4: of 1 to 64 tables, each bus has the lanes of their numbers; those of tables without the row have 0.
func TestPack(t *testing.T) {
	d := dice(9)
	for n := 1; n <= 64; n++ {
		buses := d.buses(1 + d.roll(4))
		var l []trace.Table
		most := 0
		for range n {
			l = append(l, d.table(d.roll(5), buses...))
			most = max(most, len(l[len(l)-1].Rows))
		}
		for row := range most {
			wantPack(t, row, l...)
		}
	}
	for w := 1; w <= 64; w++ {
		buses := []trace.Bus{bus("x", w), bus("y", 65-w)}
		var l []trace.Table
		for range 64 {
			l = append(l, d.table(2, buses...))
		}
		wantPack(t, 0, l...)
		wantPack(t, 1, l...)
	}
	wantPack(t, 0, d.table(1, d.buses(512)...))
	wantPack(t, 4095, wide(1, 0), table("b0:1", slices.Repeat([][]uint64{{1}}, 4096)...))
}

// P9.4: one and the same table in all lanes; a row that only one has, in each lane.
func TestPackOne(t *testing.T) {
	some := table("x:8 c:1", []uint64{31, 1}, []uint64{6, 0}, []uint64{255, 1})
	for n := 1; n <= 64; n++ {
		l := slices.Repeat([]trace.Table{some}, n)
		wantPack(t, 0, l...)
		wantPack(t, 2, l...)
		for k := range n {
			l := slices.Repeat([]trace.Table{table("x:8 c:1")}, n)
			l[k] = some
			wantPack(t, 2, l...)
		}
	}
	got, e := trace.Pack(1, table("x:3", []uint64{0}, []uint64{5}), table("x:3", []uint64{7}), table("x:3", []uint64{0}, []uint64{6}))
	if e != api.OK || len(got) != 1 || !slices.Equal(got[0], []uint64{1, 4, 5}) {
		t.Errorf("Pack of 5, none, 6 = %v, %d, want 1 4 5", got, e)
	}
}

// wantNoPack holds Pack's error, with which nothing is told.
func wantNoPack(t *testing.T, e api.Errno, why string, row int, l ...trace.Table) {
	t.Helper()
	if got, is := trace.Pack(row, l...); is != e || len(got) != 0 {
		t.Errorf("%s: Pack(%d, ..) = %v, %d, want none, %d", why, row, got, is, e)
	}
}

// P9.4: what is refused, also where the row is none, too.
func TestPackRefused(t *testing.T) {
	some := table("x:8 c:1", []uint64{31, 1}, []uint64{0, 0})
	for _, row := range []int{0, 1, -1, 2, math.MinInt, math.MaxInt} {
		wantNoPack(t, api.ErrArg, "no tables", row)
		for _, n := range []int{65, 66, 128, 200} {
			wantNoPack(t, api.ErrArg, "too many tables", row, slices.Repeat([]trace.Table{some}, n)...)
		}
		for why, one := range wrong() {
			wantNoPack(t, api.ErrArg, why, row, one)
			wantNoPack(t, api.ErrArg, why, row, one, one)
			wantNoPack(t, api.ErrArg, why, row, some, one)
			wantNoPack(t, api.ErrArg, why, row, one, some)
			wantNoPack(t, api.ErrArg, why, row, some, some, one, some)
		}
		for _, buses := range []string{"y:8 c:1", "x:8 d:1", "x:9 c:1", "x:8 c:2", "X:8 c:1"} {
			other := table(buses, some.Rows...)
			wantNoPack(t, api.ErrArg, buses, row, some, other)
			wantNoPack(t, api.ErrArg, buses, row, other, some)
			wantNoPack(t, api.ErrArg, buses, row, append(slices.Repeat([]trace.Table{some}, 63), other)...)
		}
		wantNoPack(t, api.ErrArg, "other order", row, some, table("c:1 x:8", []uint64{1, 31}))
		wantNoPack(t, api.ErrArg, "a bus more", row, some, table("x:8 c:1 d:1"))
		wantNoPack(t, api.ErrArg, "a bus less", row, some, table("x:8"))
	}
}

// P9.4: a row that none of them has.
func TestPackNoRow(t *testing.T) {
	some := table("x:8 c:1", []uint64{31, 1}, []uint64{0, 0})
	for _, row := range []int{-1, -2, math.MinInt, 2, 3, 4096, math.MaxInt, 1 << 32} {
		wantNoPack(t, api.ErrNone, "one table", row, some)
		wantNoPack(t, api.ErrNone, "two tables", row, some, table("x:8 c:1"))
		wantNoPack(t, api.ErrNone, "64 tables", row, slices.Repeat([]trace.Table{some}, 64)...)
	}
	wantNoPack(t, api.ErrNone, "no rows", 0, table("x:8"))
	wantNoPack(t, api.ErrNone, "no rows", 0, table("x:8"), table("x:8"))
	wantPack(t, 1, table("x:8 c:1"), some)
}

// What is handed in stays as it is, and what is told is new memory.
func TestApart(t *testing.T) {
	d := dice(10)
	for _, one := range d.tables(100) {
		was := copied(one)
		text := []byte(put(t, one))
		clone := bytes.Clone(text)
		got, e := trace.Get(text)
		if e != api.OK || !bytes.Equal(text, clone) {
			t.Fatalf("Get changes what is handed in, or tells %d", e)
		}
		for i := range text {
			text[i] = '#'
		}
		if !isSame(got, was) {
			t.Error("what Get told shares memory with the text")
		}
		for i := range got.Rows {
			before := copied(got)
			spoil(got.Rows[i])
			got.Rows[i] = before.Rows[i]
			if !isSame(got, before) {
				t.Error("two rows that Get told share memory")
			}
		}
		for _, b := range one.Buses {
			column, _ := trace.Column(one, b.Name)
			spoil(column)
		}
		trace.Differ(one, one)
		trace.Same(one, one)
		trace.May(one)
		if l, e := trace.Pack(0, one, one); e == api.OK {
			before := trace.Table{Rows: l}
			for i := range l {
				was := copied(before)
				spoil(l[i])
				l[i] = was.Rows[i]
				if !isSame(before, was) {
					t.Error("two buses that Pack told share memory")
				}
			}
		}
		if !isSame(one, was) {
			t.Error("what is handed in was changed")
		}
	}
}

// Two calls of Put and of Get share nothing.
func TestNotKept(t *testing.T) {
	some := table("x:8 c:1", []uint64{31, 1}, []uint64{0, 0})
	a, _ := trace.Put(some)
	b, _ := trace.Put(some)
	text := string(b)
	for i := range a {
		a[i] = '#'
	}
	if string(b) != text {
		t.Error("two texts share memory")
	}
	one, _ := trace.Get(b)
	two, _ := trace.Get(b)
	spoil(one.Rows...)
	one.Buses[0] = bus("other", 3)
	if !isSame(two, some) {
		t.Error("two tables share memory")
	}
}

// Calls without anything answer.
func TestNothing(t *testing.T) {
	var none trace.Table
	if trace.May(none) || !trace.Same(none, none) {
		t.Error("May, Same of nothing")
	}
	if text, e := trace.Put(none); e != api.ErrArg || len(text) != 0 {
		t.Errorf("Put of nothing = %q, %d", text, e)
	}
	if got, e := trace.Get(nil); e != api.ErrShort || !isNone(got) {
		t.Errorf("Get of nothing = %v, %d", got, e)
	}
	if column, is := trace.Column(none, ""); is || len(column) != 0 {
		t.Errorf("Column of nothing = %v, %v", column, is)
	}
	if row, at, differs := trace.Differ(none, none); row != 0 || at != 0 || !differs {
		t.Errorf("Differ of nothing = %d, %d, %v", row, at, differs)
	}
}
