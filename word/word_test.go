package word_test

import (
	"math"
	"math/big"
	"testing"

	"orrery/api"
	"orrery/word"
)

var (
	boolean = api.Type{Bool: true, Width: 1}
	u8      = api.Type{Width: 8}
	i8      = api.Type{Width: 8, Signed: true}
	u16     = api.Type{Width: 16}
	i16     = api.Type{Width: 16, Signed: true}
	u64     = api.Type{Width: 64}
	i64     = api.Type{Width: 64, Signed: true}
)

// wrongTypes are types that may not be.
var wrongTypes = []api.Type{
	{}, {Width: -1}, {Width: 65}, {Width: math.MinInt}, {Width: math.MaxInt},
	{Signed: true}, {Signed: true, Width: -8}, {Signed: true, Width: 65}, {Width: 128},
	{Bool: true}, {Bool: true, Width: 2}, {Bool: true, Width: -1}, {Bool: true, Width: 64},
	{Bool: true, Signed: true, Width: 1}, {Bool: true, Signed: true},
}

// wrongOps are numbers that neither One nor Two knows.
var wrongOps = []int{0, -1, 13, 14, 256, math.MinInt, math.MaxInt}

// theTypes are the bool, and both kinds of number at the widths where something may turn.
func theTypes() []api.Type {
	l := []api.Type{boolean}
	for _, w := range []int{1, 2, 3, 4, 7, 8, 9, 31, 32, 33, 63, 64} {
		l = append(l, api.Type{Width: w}, api.Type{Width: w, Signed: true})
	}
	return l
}

// most is the greatest word of t.
func most(t api.Type) uint64 { return uint64(math.MaxUint64) >> (64 - t.Width) }

// words are all words of a narrow type; of others the edges, and some between.
func words(t api.Type) []uint64 {
	top := most(t)
	var l []uint64
	if t.Width <= 4 {
		for w := uint64(0); w <= top; w++ {
			l = append(l, w)
		}
		return l
	}
	half := top/2 + 1
	return []uint64{0, 1, 2, 3, half / 3, half - 2, half - 1, half, half + 1, top - half/5, top - 1, top,
		0xa5c3_96f0_0f69_3c5a & top, 0x0123_4567_89ab_cdef & top}
}

// value is w's value, as the document tells it.
func value(t api.Type, w uint64) *big.Int {
	v := new(big.Int).SetUint64(w)
	if t.Signed && w > most(t)/2 {
		v.Sub(v, new(big.Int).Lsh(big.NewInt(1), uint(t.Width)))
	}
	return v
}

// bring is x brought into t, as the document tells it.
func bring(t api.Type, x *big.Int) uint64 {
	m := new(big.Int).Lsh(big.NewInt(1), uint(t.Width))
	return new(big.Int).Mod(x, m).Uint64()
}

// two is what op of two words is, as the document tells it.
func two(op int, t api.Type, a, b uint64) uint64 {
	x, y, z := value(t, a), value(t, b), new(big.Int)
	c := x.Cmp(y)
	holds := false
	switch op {
	case word.And:
		return a & b
	case word.Or:
		return a | b
	case word.Xor:
		return a ^ b
	case word.Add:
		return bring(t, z.Add(x, y))
	case word.Sub:
		return bring(t, z.Sub(x, y))
	case word.Mul:
		return bring(t, z.Mul(x, y))
	case word.Eq:
		holds = c == 0
	case word.Ne:
		holds = c != 0
	case word.Lt:
		holds = c < 0
	case word.Le:
		holds = c <= 0
	case word.Gt:
		holds = c > 0
	case word.Ge:
		holds = c >= 0
	}
	if holds {
		return 1
	}
	return 0
}

// forBool tells whether op is one of bools, too.
func forBool(op int) bool {
	switch op {
	case word.And, word.Or, word.Xor, word.Eq, word.Ne:
		return true
	}
	return false
}

// mustTwo is word.Two, where that may not refuse.
func mustTwo(t *testing.T, op int, ty api.Type, a, b uint64) uint64 {
	t.Helper()
	w, e := word.Two(op, ty, a, b)
	if e != api.OK {
		t.Fatalf("Two(%d, %+v, %d, %d): error %d", op, ty, a, b, e)
	}
	return w
}

// refused fails, unless an answer is ErrArg and 0.
func refused(t *testing.T, w uint64, e api.Errno, what ...any) {
	t.Helper()
	if e != api.ErrArg || w != 0 {
		t.Errorf("%v: %d, error %d; want 0, error 1", what, w, e)
	}
}

func TestNumbersOfOps(t *testing.T) {
	if word.Not != 1 || word.Neg != 2 {
		t.Error("ops of one word")
	}
	for i, op := range []int{word.And, word.Or, word.Xor, word.Add, word.Sub, word.Mul, word.Eq, word.Ne, word.Lt, word.Le, word.Gt, word.Ge} {
		if op != i+1 {
			t.Errorf("op %d is %d", i+1, op)
		}
	}
}

// P1.1: May.
func TestMay(t *testing.T) {
	for w := 1; w <= 64; w++ {
		if !word.May(api.Type{Width: w}) || !word.May(api.Type{Width: w, Signed: true}) {
			t.Errorf("width %d may not be", w)
		}
	}
	if !word.May(boolean) {
		t.Error("bool may not be")
	}
	for _, ty := range wrongTypes {
		if word.May(ty) {
			t.Errorf("%+v may be", ty)
		}
	}
}

// P1.1: Is.
func TestIs(t *testing.T) {
	for _, ty := range theTypes() {
		for _, w := range words(ty) {
			if !word.Is(ty, w) {
				t.Errorf("%d is no word of %+v", w, ty)
			}
		}
		if ty.Width < 64 {
			for _, w := range []uint64{most(ty) + 1, most(ty) + 2, 1 << 63, math.MaxUint64} {
				if word.Is(ty, w) {
					t.Errorf("%d is a word of %+v", w, ty)
				}
			}
		}
	}
	for _, ty := range wrongTypes {
		for _, w := range []uint64{0, 1, math.MaxUint64} {
			if word.Is(ty, w) {
				t.Errorf("%d is a word of %+v", w, ty)
			}
		}
	}
}

// P1.1: Cut.
func TestCut(t *testing.T) {
	for _, ty := range theTypes() {
		for _, n := range append(words(u64), words(i16)...) {
			want := bring(ty, new(big.Int).SetUint64(n))
			if w := word.Cut(ty, n); w != want {
				t.Errorf("Cut(%+v, %d): %d, want %d", ty, n, w, want)
			}
		}
	}
	for _, ty := range wrongTypes {
		if w := word.Cut(ty, math.MaxUint64); w != 0 {
			t.Errorf("Cut(%+v): %d", ty, w)
		}
	}
}

// P1.1: Value.
func TestValue(t *testing.T) {
	for _, ty := range theTypes() {
		for _, w := range words(ty) {
			want := value(ty, w)
			v, is := word.Value(ty, w)
			if is != want.IsInt64() || is && v != want.Int64() || !is && v != 0 {
				t.Errorf("Value(%+v, %d): %d %v, want %v", ty, w, v, is, want)
			}
		}
	}
	for _, c := range []struct {
		t  api.Type
		w  uint64
		v  int64
		is bool
	}{
		{i8, 127, 127, true}, {i8, 128, -128, true}, {i8, 255, -1, true}, {u8, 255, 255, true},
		{api.Type{Width: 1, Signed: true}, 1, -1, true}, {boolean, 1, 1, true},
		{i64, 1 << 63, math.MinInt64, true}, {i64, math.MaxUint64, -1, true},
		{u64, 1<<63 - 1, math.MaxInt64, true}, {u64, 1 << 63, 0, false}, {u64, math.MaxUint64, 0, false},
		{u8, 256, 0, false}, {i8, 256, 0, false}, {i8, math.MaxUint64, 0, false}, {boolean, 2, 0, false},
	} {
		if v, is := word.Value(c.t, c.w); v != c.v || is != c.is {
			t.Errorf("%+v: %d %v", c, v, is)
		}
	}
	for _, ty := range wrongTypes {
		if v, is := word.Value(ty, 1); v != 0 || is {
			t.Errorf("Value(%+v, 1): %d %v", ty, v, is)
		}
	}
}

// P1.2.
func TestOne(t *testing.T) {
	for _, ty := range theTypes() {
		for _, a := range words(ty) {
			if w, e := word.One(word.Not, ty, a); e != api.OK || w != most(ty)-a {
				t.Errorf("Not(%+v, %d): %d, error %d", ty, a, w, e)
			}
			w, e := word.One(word.Neg, ty, a)
			if ty.Bool {
				refused(t, w, e, "Neg of a bool", a)
			} else if want := bring(ty, new(big.Int).Neg(value(ty, a))); e != api.OK || w != want {
				t.Errorf("Neg(%+v, %d): %d, error %d; want %d", ty, a, w, e, want)
			}
		}
	}
	if w, e := word.One(word.Neg, i8, 128); e != api.OK || w != 128 {
		t.Errorf("Neg i8 128: %d, error %d", w, e)
	}
}

// P1.2: what is refused.
func TestOneRefused(t *testing.T) {
	for _, op := range append([]int{3, 12}, wrongOps...) {
		w, e := word.One(op, u8, 1)
		refused(t, w, e, "One", op)
	}
	for _, op := range []int{word.Not, word.Neg} {
		for _, ty := range wrongTypes {
			w, e := word.One(op, ty, 0)
			refused(t, w, e, "One", op, ty)
		}
		for _, ty := range []api.Type{u8, i8, boolean} {
			for _, a := range []uint64{most(ty) + 1, math.MaxUint64} {
				w, e := word.One(op, ty, a)
				refused(t, w, e, "One", op, ty, a)
			}
		}
	}
}

// P1.3.
func TestTwo(t *testing.T) {
	for _, ty := range theTypes() {
		for op := word.And; op <= word.Ge; op++ {
			for _, a := range words(ty) {
				for _, b := range words(ty) {
					w, e := word.Two(op, ty, a, b)
					if ty.Bool && !forBool(op) {
						refused(t, w, e, "Two of bools", op)
					} else if want := two(op, ty, a, b); e != api.OK || w != want {
						t.Errorf("Two(%d, %+v, %d, %d): %d, error %d; want %d", op, ty, a, b, w, e, want)
					}
				}
			}
		}
	}
}

// P1.3: the document's examples.
func TestTwoExamples(t *testing.T) {
	for _, c := range []struct {
		op   int
		t    api.Type
		a, b uint64
		want uint64
	}{
		{word.Add, u8, 200, 100, 44}, {word.Sub, u8, 1, 2, 255}, {word.Mul, i8, 100, 3, 44},
		{word.Lt, i8, 255, 1, 1}, {word.Lt, u8, 255, 1, 0},
	} {
		if w := mustTwo(t, c.op, c.t, c.a, c.b); w != c.want {
			t.Errorf("%+v: %d", c, w)
		}
	}
}

// P1.3: what is refused.
func TestTwoRefused(t *testing.T) {
	for _, op := range wrongOps {
		for _, ty := range []api.Type{u8, i64, boolean} {
			w, e := word.Two(op, ty, 1, 1)
			refused(t, w, e, "Two", op, ty)
		}
	}
	for op := word.And; op <= word.Ge; op++ {
		for _, ty := range wrongTypes {
			w, e := word.Two(op, ty, 0, 0)
			refused(t, w, e, "Two", op, ty)
		}
		for _, ty := range []api.Type{u8, i8, boolean} {
			for _, far := range []uint64{most(ty) + 1, math.MaxUint64} {
				w, e := word.Two(op, ty, far, 1)
				refused(t, w, e, "Two", op, ty, far, 1)
				w, e = word.Two(op, ty, 1, far)
				refused(t, w, e, "Two", op, ty, 1, far)
			}
		}
	}
}

// P1.4.
func TestShift(t *testing.T) {
	for _, ty := range theTypes() {
		if ty.Bool {
			continue
		}
		for _, a := range words(ty) {
			for by := -63; by <= 63; by++ {
				v := value(ty, a)
				if by >= 0 {
					v.Lsh(v, uint(by))
				} else {
					v.Rsh(v, uint(-by))
				}
				want := bring(ty, v)
				if w, e := word.Shift(ty, a, by); e != api.OK || w != want {
					t.Errorf("Shift(%+v, %d, %d): %d, error %d; want %d", ty, a, by, w, e, want)
				}
			}
		}
	}
	for _, c := range []struct {
		t    api.Type
		by   int
		want uint64
	}{{u8, 1, 2}, {u8, -1, 64}, {i8, -1, 192}, {i8, -63, 255}, {u8, -63, 0}, {u8, 63, 0}, {i8, 0, 129}} {
		if w, e := word.Shift(c.t, 129, c.by); e != api.OK || w != c.want {
			t.Errorf("%+v: %d, error %d", c, w, e)
		}
	}
}

// P1.4: what is refused.
func TestShiftRefused(t *testing.T) {
	for _, by := range []int{-64, 64, -65, 65, math.MinInt, math.MinInt + 1, math.MaxInt} {
		for _, ty := range []api.Type{u8, i8, u64, i64} {
			w, e := word.Shift(ty, 1, by)
			refused(t, w, e, "Shift", ty, by)
		}
	}
	for _, by := range []int{-1, 0, 1} {
		for _, ty := range append([]api.Type{boolean}, wrongTypes...) {
			w, e := word.Shift(ty, 0, by)
			refused(t, w, e, "Shift", ty, by)
		}
		for _, ty := range []api.Type{u8, i8} {
			w, e := word.Shift(ty, 256, by)
			refused(t, w, e, "Shift of 256", ty, by)
		}
	}
}

// P1.5: Convert.
func TestConvert(t *testing.T) {
	for _, from := range theTypes() {
		for _, to := range theTypes() {
			for _, a := range words(from) {
				w, e := word.Convert(from, to, a)
				if to.Bool && !from.Bool {
					refused(t, w, e, "Convert to bool", from, a)
				} else if want := bring(to, value(from, a)); e != api.OK || w != want {
					t.Errorf("Convert(%+v, %+v, %d): %d, error %d; want %d", from, to, a, w, e, want)
				}
			}
		}
	}
	for _, c := range []struct {
		from, to api.Type
		a, want  uint64
	}{{i8, u16, 255, 65535}, {u8, i16, 255, 255}, {u16, i8, 300, 44}, {boolean, boolean, 1, 1}, {boolean, i8, 1, 1}} {
		if w, e := word.Convert(c.from, c.to, c.a); e != api.OK || w != c.want {
			t.Errorf("%+v: %d, error %d", c, w, e)
		}
	}
}

// P1.5: what Convert refuses.
func TestConvertRefused(t *testing.T) {
	for _, ty := range wrongTypes {
		w, e := word.Convert(ty, u8, 0)
		refused(t, w, e, "Convert from", ty)
		w, e = word.Convert(u8, ty, 0)
		refused(t, w, e, "Convert to", ty)
		w, e = word.Convert(boolean, ty, 0)
		refused(t, w, e, "Convert of a bool to", ty)
		w, e = word.Convert(ty, ty, 0)
		refused(t, w, e, "Convert from and to", ty)
	}
	for _, from := range []api.Type{u8, i8, boolean} {
		w, e := word.Convert(from, u64, most(from)+1)
		refused(t, w, e, "Convert of no word of", from)
	}
}

// P1.5: All.
func TestAll(t *testing.T) {
	for _, ty := range theTypes() {
		none := []struct {
			op   int
			want uint64
		}{{word.And, most(ty)}, {word.Or, 0}, {word.Xor, 0}, {word.Add, 0}, {word.Mul, 1}}
		for _, c := range none {
			if ty.Bool && !forBool(c.op) {
				continue
			}
			if w, e := word.All(c.op, ty); e != api.OK || w != c.want {
				t.Errorf("All(%d, %+v) of none: %d, error %d", c.op, ty, w, e)
			}
			l := words(ty)
			so := l[0]
			for i := range l {
				if i > 0 {
					so = two(c.op, ty, so, l[i])
				}
				if w, e := word.All(c.op, ty, l[:i+1]...); e != api.OK || w != so {
					t.Errorf("All(%d, %+v, %v): %d, error %d; want %d", c.op, ty, l[:i+1], w, e, so)
				}
				if w, e := word.All(c.op, ty, l[i]); e != api.OK || w != l[i] {
					t.Errorf("All(%d, %+v, %d): %d, error %d", c.op, ty, l[i], w, e)
				}
			}
		}
	}
	if w, e := word.All(word.Mul, i8, 255, 2, 3); e != api.OK || w != 250 {
		t.Errorf("-1 by 2 by 3: %d, error %d", w, e)
	}
}

// R3: what is handed in is only read.
func TestAllReadsOnly(t *testing.T) {
	l := []uint64{7, 8, 9}
	if _, e := word.All(word.Add, u8, l...); e != api.OK || l[0] != 7 || l[1] != 8 || l[2] != 9 {
		t.Error(l, e)
	}
}

// P1.5: what All refuses.
func TestAllRefused(t *testing.T) {
	for _, op := range append([]int{word.Sub, word.Eq, word.Ne, word.Lt, word.Le, word.Gt, word.Ge}, wrongOps...) {
		for _, l := range [][]uint64{nil, {1}, {1, 1}} {
			for _, ty := range []api.Type{u8, boolean} {
				w, e := word.All(op, ty, l...)
				refused(t, w, e, "All", op, ty, l)
			}
		}
	}
	for _, op := range []int{word.And, word.Or, word.Xor, word.Add, word.Mul} {
		for _, l := range [][]uint64{{256}, {1, 256}, {256, 1, 1}, {0, 0, math.MaxUint64, 0}} {
			for _, ty := range []api.Type{u8, i8} {
				w, e := word.All(op, ty, l...)
				refused(t, w, e, "All", op, ty, l)
			}
		}
		for _, ty := range wrongTypes {
			for _, l := range [][]uint64{nil, {0}, {0, 0}} {
				w, e := word.All(op, ty, l...)
				refused(t, w, e, "All", op, ty, l)
			}
		}
		if !forBool(op) {
			for _, l := range [][]uint64{nil, {1}, {1, 1}} {
				w, e := word.All(op, boolean, l...)
				refused(t, w, e, "All of bools", op, l)
			}
		}
	}
}

// P1.6: neither order nor brackets matter.
func TestOrderAndBrackets(t *testing.T) {
	for _, ty := range theTypes() {
		for _, op := range []int{word.And, word.Or, word.Xor, word.Add, word.Mul} {
			if ty.Bool && !forBool(op) {
				continue
			}
			for _, a := range words(ty) {
				for _, b := range words(ty) {
					ab := mustTwo(t, op, ty, a, b)
					if ab != mustTwo(t, op, ty, b, a) {
						t.Errorf("order: %d %+v %d %d", op, ty, a, b)
					}
					for _, c := range words(ty) {
						if mustTwo(t, op, ty, ab, c) != mustTwo(t, op, ty, a, mustTwo(t, op, ty, b, c)) {
							t.Errorf("brackets: %d %+v %d %d %d", op, ty, a, b, c)
						}
					}
				}
			}
		}
	}
}

// P1.6: a less b, and b, is a; Neg is 0 less a; Mul goes on over Add.
func TestSubNegMul(t *testing.T) {
	for _, ty := range theTypes() {
		if ty.Bool {
			continue
		}
		for _, a := range words(ty) {
			if n, e := word.One(word.Neg, ty, a); e != api.OK || n != mustTwo(t, word.Sub, ty, 0, a) {
				t.Errorf("Neg: %+v %d: %d, error %d", ty, a, n, e)
			}
			for _, b := range words(ty) {
				if mustTwo(t, word.Add, ty, mustTwo(t, word.Sub, ty, a, b), b) != a {
					t.Errorf("less and more: %+v %d %d", ty, a, b)
				}
				for _, c := range words(ty) {
					left := mustTwo(t, word.Mul, ty, a, mustTwo(t, word.Add, ty, b, c))
					right := mustTwo(t, word.Add, ty, mustTwo(t, word.Mul, ty, a, b), mustTwo(t, word.Mul, ty, a, c))
					if left != right {
						t.Errorf("Mul over Add: %+v %d %d %d", ty, a, b, c)
					}
				}
			}
		}
	}
}

// P1.7.
func TestJustOneHolds(t *testing.T) {
	for _, ty := range theTypes() {
		if ty.Bool {
			continue
		}
		for _, a := range words(ty) {
			for _, b := range words(ty) {
				lt, eq, gt := mustTwo(t, word.Lt, ty, a, b), mustTwo(t, word.Eq, ty, a, b), mustTwo(t, word.Gt, ty, a, b)
				if lt+eq+gt != 1 {
					t.Errorf("%+v %d %d: %d %d %d", ty, a, b, lt, eq, gt)
				}
				if mustTwo(t, word.Le, ty, a, b) != lt|eq {
					t.Errorf("Le: %+v %d %d", ty, a, b)
				}
			}
		}
	}
}

// holdsAll tells whether to has all values of from.
func holdsAll(to, from api.Type) bool {
	if to.Bool {
		return from.Bool
	}
	for _, w := range []uint64{0, most(from), most(from) / 2, most(from)/2 + 1} {
		if w > most(from) {
			continue
		}
		v := value(from, w)
		if value(to, bring(to, v)).Cmp(v) != 0 {
			return false
		}
	}
	return true
}

// P1.8.
func TestThereAndBack(t *testing.T) {
	pairs := 0
	for _, from := range theTypes() {
		for _, to := range theTypes() {
			if !holdsAll(to, from) || from.Bool && !to.Bool {
				continue // of a number no bool is made, so there is no way back
			}
			pairs++
			for _, a := range words(from) {
				there, e := word.Convert(from, to, a)
				back, f := word.Convert(to, from, there)
				if e != api.OK || f != api.OK || back != a {
					t.Errorf("%+v, %+v, %d: %d, error %d; %d, error %d", from, to, a, there, e, back, f)
				}
			}
		}
	}
	if pairs < 200 {
		t.Errorf("only %d pairs of types", pairs)
	}
}
