package lit_test

import (
	"math"
	"slices"
	"testing"

	"orrery/api"
	"orrery/lit"
)

// last is the greatest literal that there is.
const last = lit.Lit(2*lit.MaxNode + 1)

// theLits are the literals of the first nodes, and those at the edges.
func theLits() []lit.Lit {
	var l []lit.Lit
	for n := lit.False; n < 14; n++ {
		l = append(l, n)
	}
	return append(l, 1000, 1001, last-3, last-2, last-1, last)
}

// farLits are numbers above all literals: they have answers, too.
func farLits() []lit.Lit {
	return []lit.Lit{last + 1, last + 2, 1 << 31, 1<<31 + 1, math.MaxUint32 - 1, math.MaxUint32}
}

// numbers are numbers with bits at all edges.
func numbers() []uint64 {
	l := []uint64{0, 1, 2, 3, 5, 6, 0xaaaa_aaaa_aaaa_aaaa, 0x5555_5555_5555_5555, 0x0123_4567_89ab_cdef,
		0xfedc_ba98_7654_3210, 1 << 31, 1<<32 - 1, 1 << 32, 1<<63 - 1, math.MaxUint64}
	for i := range 64 {
		l = append(l, 1<<i, ^uint64(1<<i))
	}
	return l
}

// valuations are rows of words of several lengths; some say of node 0 what it is not.
func valuations() [][]uint64 {
	l := [][]uint64{nil, {}, {0}, {math.MaxUint64}, {1, 2}, {0, math.MaxUint64}, {0xff, 0, math.MaxUint64, 1}}
	for seed := range uint64(5) {
		row := make([]uint64, 12)
		for i := range row {
			row[i] = (seed*131 + uint64(i) + 1) * 0x9e37_79b9_7f4a_7c15
		}
		l = append(l, row)
	}
	return l
}

// wordOf is a literal's word, as the document tells it.
func wordOf(l lit.Lit, words []uint64) uint64 {
	node, so := int(l/2), uint64(0)
	for n, w := range words {
		if n == node && n != 0 {
			so = w
		}
	}
	if l%2 == 1 {
		so = math.MaxUint64 - so
	}
	return so
}

// rows are rows of literals of nodes below n: none, one, all, and more than 64.
func rows(n int) [][]lit.Lit {
	var all, many []lit.Lit
	for l := range lit.Lit(2 * n) {
		all = append(all, l)
	}
	for i := range 100 {
		many = append(many, lit.Lit(i*7%(2*n)))
	}
	back := slices.Clone(all)
	slices.Reverse(back)
	return [][]lit.Lit{nil, {}, {lit.False}, {lit.True}, {lit.Lit(2*n - 1)}, all, back, many}
}

// bys are rows of n literals, the first of them False; theirs are of nodes below m.
func bys(n, m int) [][]lit.Lit {
	var l [][]lit.Lit
	for step := range 9 {
		by := []lit.Lit{lit.False}
		for i := 1; i < n; i++ {
			by = append(by, lit.Lit((i*step+step*step)%(2*m)))
		}
		l = append(l, by)
	}
	return l
}

// mustOver is lit.Over, where that may not refuse.
func mustOver(t *testing.T, row, by []lit.Lit) []lit.Lit {
	t.Helper()
	so, e := lit.Over(row, by)
	if e != api.OK || len(so) != len(row) {
		t.Fatalf("Over(%v, %v): %v, error %d", row, by, so, e)
	}
	return so
}

func TestConstants(t *testing.T) {
	if lit.False != 0 || lit.True != 1 || lit.MaxNode != 16777216 {
		t.Error(lit.False, lit.True, lit.MaxNode)
	}
}

// P2.1: Of, and what it is made of.
func TestOf(t *testing.T) {
	for _, node := range []int{0, 1, 2, 3, 255, 256, 65535, 65536, lit.MaxNode - 1, lit.MaxNode} {
		plain, e := lit.Of(node, false)
		if e != api.OK || int(plain) != 2*node || plain.Node() != node || plain.Turned() {
			t.Errorf("Of(%d, false): %d, error %d; of %d %v", node, plain, e, plain.Node(), plain.Turned())
		}
		turned, e := lit.Of(node, true)
		if e != api.OK || int(turned) != 2*node+1 || turned.Node() != node || !turned.Turned() {
			t.Errorf("Of(%d, true): %d, error %d; of %d %v", node, turned, e, turned.Node(), turned.Turned())
		}
	}
}

// P2.1: the document's example.
func TestOfExample(t *testing.T) {
	l, e := lit.Of(3, true)
	if e != api.OK || l != 7 || l.Node() != 3 || !l.Turned() || l.Not() != 6 {
		t.Error(l, e, l.Node(), l.Turned(), l.Not())
	}
}

// P2.1: what Of refuses.
func TestOfRefused(t *testing.T) {
	for _, node := range []int{-1, -2, math.MinInt, lit.MaxNode + 1, lit.MaxNode + 2, 1 << 25, 1 << 30, 1 << 31, 1 << 32, 1<<32 + 1, math.MaxInt} {
		for _, turned := range []bool{false, true} {
			if l, e := lit.Of(node, turned); e != api.ErrArg || l != 0 {
				t.Errorf("Of(%d, %v): %d, error %d", node, turned, l, e)
			}
		}
	}
}

// P2.1: Node, Turned, Not, If.
func TestMethods(t *testing.T) {
	for _, l := range append(theLits(), farLits()...) {
		if l.Node() != int(l/2) || l.Turned() != (l%2 == 1) {
			t.Errorf("%d is of %d, %v", l, l.Node(), l.Turned())
		}
		other := l + 1
		if l%2 == 1 {
			other = l - 1
		}
		if l.Not() != other || l.If(true) != other || l.If(false) != l {
			t.Errorf("%d: Not %d, If %d, %d", l, l.Not(), l.If(true), l.If(false))
		}
	}
	if lit.False.Not() != lit.True || lit.True.Not() != lit.False {
		t.Error("the constants are not each other's opposite")
	}
}

// P2.2.
func TestWord(t *testing.T) {
	for _, words := range valuations() {
		before := slices.Clone(words)
		for _, l := range append(theLits(), farLits()...) {
			if w, want := l.Word(words), wordOf(l, words); w != want {
				t.Errorf("%d by %x: %x, want %x", l, words, w, want)
			}
		}
		if !slices.Equal(before, words) {
			t.Errorf("%x is now %x", before, words)
		}
	}
}

// P2.2: node 0, and nodes of which nothing is said.
func TestWordEdges(t *testing.T) {
	const all = math.MaxUint64
	words := []uint64{0xf0f0, 12, all}
	for _, c := range []struct {
		l     lit.Lit
		words []uint64
		want  uint64
	}{
		{0, words, 0}, {1, words, all}, {0, nil, 0}, {1, nil, all}, {2, words, 12}, {3, words, all - 12}, {4, words, all}, {5, words, 0},
		{6, words, 0}, {7, words, all}, {2, nil, 0}, {3, nil, all}, {4, words[:2], 0}, {5, words[:2], all},
		{last - 1, words, 0}, {last, words, all},
	} {
		if w := c.l.Word(c.words); w != c.want {
			t.Errorf("%d by %x: %x, want %x", c.l, c.words, w, c.want)
		}
	}
}

// folded is what Fold tells, as the document says it.
func folded(a, b lit.Lit) (lit.Lit, bool) {
	opposites := a/2 == b/2 && a%2 != b%2
	switch {
	case a == 0 || b == 0 || opposites:
		return 0, true
	case a == 1:
		return b, true
	case b == 1:
		return a, true
	case a == b:
		return a, true
	}
	return 0, false
}

// P2.3: Fold.
func TestFold(t *testing.T) {
	l := append(theLits(), farLits()...)
	for _, a := range l {
		for _, b := range l {
			so, is := lit.Fold(a, b)
			if want, wanted := folded(a, b); so != want || is != wanted {
				t.Errorf("Fold(%d, %d): %d %v, want %d %v", a, b, so, is, want, wanted)
			}
		}
	}
	for _, c := range []struct {
		a, b, want lit.Lit
		is         bool
	}{
		{6, 7, 0, true}, {6, 1, 6, true}, {6, 8, 0, false}, {7, 6, 0, true}, {1, 6, 6, true}, {8, 6, 0, false}, {6, 6, 6, true},
		{7, 7, 7, true}, {0, 6, 0, true}, {6, 0, 0, true}, {0, 0, 0, true}, {0, 1, 0, true}, {1, 0, 0, true}, {1, 1, 1, true},
		{7, 8, 0, false}, {5, 6, 0, false}, {3, 4, 0, false}, {last, last - 1, 0, true}, {last, last, last, true}, {last, last - 2, 0, false},
	} {
		if so, is := lit.Fold(c.a, c.b); so != c.want || is != c.is {
			t.Errorf("Fold(%d, %d): %d %v", c.a, c.b, so, is)
		}
	}
}

// P2.3: Pair.
func TestPair(t *testing.T) {
	l := append(theLits(), farLits()...)
	for _, a := range l {
		for _, b := range l {
			great, small := lit.Pair(a, b)
			if great != max(a, b) || small != min(a, b) {
				t.Errorf("Pair(%d, %d): %d %d", a, b, great, small)
			}
		}
	}
}

// P2.4: Const.
func TestConst(t *testing.T) {
	for _, n := range numbers() {
		for width := -3; width <= 70; width++ {
			row := lit.Const(n, width)
			if len(row) != min(max(width, 0), 64) {
				t.Fatalf("Const(%x, %d) has %d", n, width, len(row))
			}
			for i, l := range row {
				if want := lit.Lit(n >> i % 2); l != want {
					t.Errorf("Const(%x, %d): bit %d is %d", n, width, i, l)
				}
			}
		}
	}
	if row := lit.Const(6, 4); !slices.Equal(row, []lit.Lit{0, 1, 1, 0}) {
		t.Error(row)
	}
}

// P2.4: widths that no number has.
func TestConstWidths(t *testing.T) {
	for _, width := range []int{0, -1, -64, math.MinInt} {
		if row := lit.Const(math.MaxUint64, width); len(row) != 0 {
			t.Errorf("Const of width %d: %v", width, row)
		}
	}
	for _, width := range []int{64, 65, 128, 1 << 32, 1<<32 + 1, math.MaxInt} {
		row := lit.Const(1<<63|1, width)
		if len(row) != 64 || row[0] != lit.True || row[1] != lit.False || row[63] != lit.True {
			t.Errorf("Const of width %d: %v", width, row)
		}
	}
}

// P2.4: Number of what Const makes.
func TestNumber(t *testing.T) {
	for _, n := range numbers() {
		for width := 0; width <= 64; width++ {
			want := n
			if width < 64 {
				want = n % (1 << width)
			}
			if so, is := lit.Number(lit.Const(n, width)); !is || so != want {
				t.Errorf("Number of Const(%x, %d): %x %v", n, width, so, is)
			}
		}
	}
	for _, c := range []struct {
		row  []lit.Lit
		want uint64
	}{{nil, 0}, {[]lit.Lit{}, 0}, {[]lit.Lit{0}, 0}, {[]lit.Lit{1}, 1}, {[]lit.Lit{0, 1, 1, 0}, 6}} {
		if so, is := lit.Number(c.row); !is || so != c.want {
			t.Errorf("Number(%v): %d %v", c.row, so, is)
		}
	}
}

// P2.4: what is no number.
func TestNoNumber(t *testing.T) {
	none := func(row []lit.Lit) {
		t.Helper()
		if so, is := lit.Number(row); is || so != 0 {
			t.Errorf("Number(%v): %d %v", row, so, is)
		}
	}
	for _, long := range []int{65, 66, 128, 1000} {
		none(make([]lit.Lit, long))
		row := make([]lit.Lit, long)
		row[0], row[long-1] = lit.True, lit.True
		none(row)
	}
	for _, width := range []int{1, 2, 8, 63, 64} {
		for at := range width {
			for _, l := range append([]lit.Lit{2, 3, 4, last - 1, last}, farLits()...) {
				row := lit.Const(math.MaxUint64, width)
				row[at] = l
				none(row)
			}
		}
	}
}

// P2.4: Turn.
func TestTurn(t *testing.T) {
	for _, row := range append(rows(7), theLits(), farLits()) {
		so := lit.Turn(row...)
		if len(so) != len(row) {
			t.Fatalf("Turn(%v): %v", row, so)
		}
		for i, l := range row {
			if so[i] != l^1 {
				t.Errorf("Turn(%v): %v", row, so)
			}
		}
	}
	if so := lit.Turn(0, 1, 6, 7); !slices.Equal(so, []lit.Lit{1, 0, 7, 6}) {
		t.Error(so)
	}
	if so := lit.Turn(); len(so) != 0 {
		t.Error(so)
	}
}

// P2.5.
func TestOver(t *testing.T) {
	for n := 1; n <= 7; n++ {
		for _, row := range rows(n) {
			for _, by := range bys(n, 9) {
				so := mustOver(t, row, by)
				for i, l := range row {
					if want := by[l/2] ^ l%2; so[i] != want {
						t.Errorf("Over(%v, %v): %v", row, by, so)
					}
				}
			}
		}
	}
	for _, c := range []struct{ row, by, want []lit.Lit }{
		{[]lit.Lit{2, 3, 4, 5}, []lit.Lit{0, 9, 1}, []lit.Lit{9, 8, 1, 0}},
		{[]lit.Lit{1, 0}, []lit.Lit{0}, []lit.Lit{1, 0}},
		{[]lit.Lit{2, 3}, []lit.Lit{0, last}, []lit.Lit{last, last - 1}},
		{[]lit.Lit{3}, []lit.Lit{0, 3, 99}, []lit.Lit{2}},
		{nil, []lit.Lit{0}, nil}, {nil, []lit.Lit{0, 7}, nil},
	} {
		if so := mustOver(t, c.row, c.by); !slices.Equal(so, c.want) {
			t.Errorf("Over(%v, %v): %v", c.row, c.by, so)
		}
	}
}

// P2.5: what Over refuses.
func TestOverRefused(t *testing.T) {
	for _, c := range []struct{ row, by []lit.Lit }{
		{nil, nil}, {nil, []lit.Lit{}}, {[]lit.Lit{0}, nil}, {[]lit.Lit{1}, []lit.Lit{}}, {[]lit.Lit{2}, nil},
		{nil, []lit.Lit{1}}, {nil, []lit.Lit{2, 0}}, {nil, []lit.Lit{last}}, {[]lit.Lit{0}, []lit.Lit{1}}, {[]lit.Lit{1}, []lit.Lit{1, 0}},
		{[]lit.Lit{2, 3}, []lit.Lit{1, 2}}, {[]lit.Lit{2}, []lit.Lit{3, 0}}, {[]lit.Lit{2}, []lit.Lit{2, 2, 4}},
		{[]lit.Lit{2}, []lit.Lit{0}}, {[]lit.Lit{3}, []lit.Lit{0}}, {[]lit.Lit{4}, []lit.Lit{0, 2}}, {[]lit.Lit{5}, []lit.Lit{0, 2}},
		{[]lit.Lit{0, 2, 6}, []lit.Lit{0, 2, 4}}, {[]lit.Lit{7, 2, 0}, []lit.Lit{0, 2, 4}},
		{[]lit.Lit{last}, []lit.Lit{0, 2, 4}}, {farLits(), []lit.Lit{0, 2, 4}},
	} {
		if so, e := lit.Over(c.row, c.by); e != api.ErrArg || len(so) != 0 {
			t.Errorf("Over(%v, %v): %v, error %d", c.row, c.by, so, e)
		}
	}
}

// R3: what is handed in is only read, and what is told is new memory.
func TestNewMemory(t *testing.T) {
	row, by := []lit.Lit{2, 3, 4, 1}, []lit.Lit{0, 8, 6}
	over, turned := mustOver(t, row, by), lit.Turn(row...)
	if !slices.Equal(row, []lit.Lit{2, 3, 4, 1}) || !slices.Equal(by, []lit.Lit{0, 8, 6}) {
		t.Error("changed:", row, by)
	}
	clear(row)
	clear(by)
	if !slices.Equal(over, []lit.Lit{8, 9, 6, 1}) || !slices.Equal(turned, []lit.Lit{3, 2, 5, 0}) {
		t.Error("hangs on what was handed in:", over, turned)
	}
	first := lit.Const(5, 3)
	clear(lit.Const(5, 3))
	if !slices.Equal(first, []lit.Lit{1, 0, 1}) {
		t.Error("hangs on another one:", first)
	}
}

// P2.6: Not of Not; the words of opposites.
func TestOpposites(t *testing.T) {
	for _, l := range append(theLits(), farLits()...) {
		if l.Not().Not() != l || l.Not() == l {
			t.Errorf("%d: %d, %d", l, l.Not(), l.Not().Not())
		}
		for _, words := range valuations() {
			if l.Word(words)^l.Not().Word(words) != math.MaxUint64 {
				t.Errorf("%d by %x: %x, %x", l, words, l.Word(words), l.Not().Word(words))
			}
		}
	}
}

// P2.6: what is folded is the And of both words.
func TestFoldIsAnd(t *testing.T) {
	some := 0
	for _, words := range valuations() {
		for _, a := range theLits() {
			for _, b := range theLits() {
				so, is := lit.Fold(a, b)
				if !is {
					continue
				}
				some++
				if so.Word(words) != a.Word(words)&b.Word(words) {
					t.Errorf("Fold(%d, %d) is %d: not the And by %x", a, b, so, words)
				}
			}
		}
	}
	if some == 0 {
		t.Error("nothing is folded")
	}
}

// P2.7: Over goes on over Over.
func TestOverOver(t *testing.T) {
	for _, row := range rows(5) {
		for _, by := range bys(5, 8) {
			for _, then := range bys(8, 6) {
				left := mustOver(t, mustOver(t, row, by), then)
				right := mustOver(t, row, mustOver(t, by, then))
				if !slices.Equal(left, right) {
					t.Errorf("%v by %v, by %v: %v, %v", row, by, then, left, right)
				}
			}
		}
	}
}

// P2.7: Over and Turn commute.
func TestOverTurn(t *testing.T) {
	for _, row := range rows(6) {
		for _, by := range bys(6, 8) {
			left := mustOver(t, lit.Turn(row...), by)
			right := lit.Turn(mustOver(t, row, by)...)
			if !slices.Equal(left, right) {
				t.Errorf("%v by %v: %v, %v", row, by, left, right)
			}
		}
	}
}

// P2.7: the words of what is brought over.
func TestOverWords(t *testing.T) {
	for _, words := range valuations() {
		for _, by := range bys(6, 8) {
			var told []uint64
			for _, l := range by {
				told = append(told, l.Word(words))
			}
			for _, row := range rows(6) {
				so := mustOver(t, row, by)
				for i, l := range row {
					if so[i].Word(words) != l.Word(told) {
						t.Errorf("%d by %v: %d; by %x: %x, %x", l, by, so[i], words, so[i].Word(words), l.Word(told))
					}
				}
			}
		}
	}
}
