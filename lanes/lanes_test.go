package lanes_test

import (
	"fmt"
	"math"
	"slices"
	"testing"

	"orrery/api"
	"orrery/lanes"
)

// ones is a number all of whose bits are 1.
const ones = math.MaxUint64

// square is 64 rows.
type square = [64]uint64

// dice tells the same numbers in each run.
type dice uint64

// roll is a number below n.
func (d *dice) roll(n int) int {
	*d = *d*6364136223846793005 + 1442695040888963407
	return int(uint64(*d) >> 33 % uint64(n))
}

// word is any word of that width.
func (d *dice) word(width int) uint64 {
	w := uint64(d.roll(1<<31))<<33 ^ uint64(d.roll(1<<31))<<11 ^ uint64(d.roll(1<<31))
	return w & top(width)
}

// words are n of them.
func (d *dice) words(n, width int) []uint64 {
	w := make([]uint64, n)
	for i := range w {
		w[i] = d.word(width)
	}
	return w
}

// square is any one.
func (d *dice) square() square {
	return square(d.words(64, 64))
}

// top is the greatest word of that width.
func top(width int) uint64 {
	return ones >> (64 - width)
}

// bit tells what is at i, j: row i's bit j.
func bit(rows []uint64, i, j int) bool {
	return rows[i]>>j&1 == 1
}

// turned is s, turned over, place by place, as the document tells it.
func turned(s square) (so square) {
	for i := range 64 {
		for j := range 64 {
			if bit(s[:], i, j) {
				so[j] |= 1 << i
			}
		}
	}
	return so
}

// packed is words as lanes, bit by bit, as the document tells it.
func packed(width int, words []uint64) []uint64 {
	l := make([]uint64, width)
	for k, w := range words {
		for i := range width {
			if w>>i&1 == 1 {
				l[i] |= 1 << k
			}
		}
	}
	return l
}

// has is what that lane has, bit by bit, as the document tells it.
func has(l []uint64, lane int) uint64 {
	w := uint64(0)
	for i := range l {
		if bit(l, i, lane) {
			w |= 1 << i
		}
	}
	return w
}

// pack is Pack, where no error may be.
func pack(t *testing.T, width int, words ...uint64) []uint64 {
	t.Helper()
	l, e := lanes.Pack(width, words...)
	if e != api.OK {
		t.Fatalf("Pack(%d, %d words) tells error %d", width, len(words), e)
	}
	return l
}

// unpack is Unpack, where no error may be.
func unpack(t *testing.T, l []uint64) square {
	t.Helper()
	w, e := lanes.Unpack(l)
	if e != api.OK {
		t.Fatalf("Unpack of %d numbers tells error %d", len(l), e)
	}
	return w
}

// refused holds an answer of numbers against ErrArg, and none.
func refused(t *testing.T, call string, l []uint64, e api.Errno) {
	t.Helper()
	if e != api.ErrArg || len(l) != 0 {
		t.Errorf("%s = %v, %d, want none, %d", call, l, e, api.ErrArg)
	}
}

// P5.1: the number of lanes is 64.
func TestMany(t *testing.T) {
	if lanes.Many != 64 {
		t.Errorf("Many = %d", lanes.Many)
	}
}

// P5.1: squares of zeros, of ones, of one bit alone at each place, and any others.
func TestTurn(t *testing.T) {
	if got := lanes.Turn(square{}); got != (square{}) {
		t.Errorf("Turn of zeros = %x", got)
	}
	var full square
	for i := range full {
		full[i] = ones
	}
	if got := lanes.Turn(full); got != full {
		t.Errorf("Turn of ones = %x", got)
	}
	for i := range 64 {
		for j := range 64 {
			var one, want square
			one[i], want[j] = 1<<j, 1<<i
			if got := lanes.Turn(one); got != want {
				t.Fatalf("Turn of one bit at %d, %d = %x", i, j, got)
			}
		}
	}
	d := dice(51)
	for range 100 {
		s := d.square()
		if got := lanes.Turn(s); got != turned(s) {
			t.Fatalf("Turn(%x) = %x", s, got)
		}
	}
}

// P5.1: the example; it is not the same turned over.
func TestTurnExample(t *testing.T) {
	s := square{0: ones}
	var want square
	for i := range want {
		want[i] = 1
	}
	if got := lanes.Turn(s); got != want {
		t.Errorf("Turn of a square whose row 0 is all ones = %x", got)
	}
	if got := lanes.Turn(want); got != s {
		t.Errorf("Turn of a square each of whose rows is 1 = %x", got)
	}
}

// P5.1, P5.5: the square handed in keeps what it had; turned over twice it is itself.
func TestTurnTwice(t *testing.T) {
	d := dice(52)
	for range 100 {
		s := d.square()
		kept := s
		once := lanes.Turn(s)
		if s != kept {
			t.Fatalf("Turn changed its square %x to %x", kept, s)
		}
		if once == s {
			t.Fatalf("Turn(%x) is the same", s)
		}
		if twice := lanes.Turn(once); twice != s {
			t.Fatalf("Turn of Turn(%x) = %x", s, twice)
		}
	}
}

// P5.2: each width, with no words, one, some, 64.
func TestPack(t *testing.T) {
	d := dice(53)
	for width := 1; width <= 64; width++ {
		for _, n := range []int{0, 1, 2, 3, 31, 32, 33, 63, 64} {
			words := d.words(n, width)
			kept := slices.Clone(words)
			got := pack(t, width, words...)
			if !slices.Equal(got, packed(width, kept)) {
				t.Fatalf("Pack(%d, %x...) = %x", width, kept, got)
			}
			if !slices.Equal(words, kept) {
				t.Fatalf("Pack(%d, ..) changed %x to %x", width, kept, words)
			}
		}
	}
}

// P5.2: the example, and lanes that are wanting.
func TestPackExample(t *testing.T) {
	if got := pack(t, 2, 1, 2, 3); !slices.Equal(got, []uint64{5, 6}) {
		t.Errorf("Pack(2, 1, 2, 3) = %v", got)
	}
	if got := pack(t, 3); !slices.Equal(got, []uint64{0, 0, 0}) {
		t.Errorf("Pack(3) = %v", got)
	}
	if got := pack(t, 2, 3); !slices.Equal(got, []uint64{1, 1}) {
		t.Errorf("Pack(2, 3) = %v", got)
	}
	want := square{1, 2, 3}
	if got := unpack(t, []uint64{5, 6}); got != want {
		t.Errorf("Unpack of 5, 6 = %v", got)
	}
}

// P5.2: the greatest word of each width goes, the next one does not, in whatever lane.
func TestPackGreatest(t *testing.T) {
	for width := 1; width <= 64; width++ {
		for lane := range 64 {
			words := make([]uint64, 64)
			words[lane] = top(width)
			got := pack(t, width, words...)
			for i := range got {
				if got[i] != 1<<lane {
					t.Fatalf("Pack(%d, ..) of the greatest in lane %d = %x", width, lane, got)
				}
			}
			if width == 64 {
				continue
			}
			for _, high := range []uint64{1 << width, ones, 1 << 63} {
				words[lane] = high
				l, e := lanes.Pack(width, words...)
				refused(t, fmt.Sprintf("Pack(%d, ..) with %x in lane %d", width, high, lane), l, e)
			}
		}
	}
}

// P5.2: widths that are none, and too many words.
func TestPackRefused(t *testing.T) {
	for _, width := range []int{0, 65, -1, 66, 128, -64, math.MaxInt, math.MinInt} {
		for _, n := range []int{0, 1, 64, 65} {
			l, e := lanes.Pack(width, make([]uint64, n)...)
			refused(t, fmt.Sprintf("Pack(%d, ..) of %d words", width, n), l, e)
		}
	}
	for _, width := range []int{1, 2, 63, 64} {
		for _, n := range []int{65, 66, 128, 1000} {
			l, e := lanes.Pack(width, make([]uint64, n)...)
			refused(t, fmt.Sprintf("Pack(%d, ..) of %d words", width, n), l, e)
		}
	}
}

// P5.2, P5.3: one number, some, 64; each of the lanes.
func TestUnpack(t *testing.T) {
	d := dice(54)
	for n := 1; n <= 64; n++ {
		l := d.words(n, 64)
		kept := slices.Clone(l)
		words := unpack(t, l)
		for lane, w := range words {
			if w != has(kept, lane) {
				t.Fatalf("Unpack(%x) tells %x of lane %d", kept, w, lane)
			}
			got, e := lanes.Lane(l, lane)
			if e != api.OK || got != w {
				t.Fatalf("Lane(%x, %d) = %x, %d, want %x", kept, lane, got, e, w)
			}
		}
		if !slices.Equal(l, kept) {
			t.Fatalf("Unpack and Lane changed %x to %x", kept, l)
		}
	}
}

// P5.2: no numbers, and too many.
func TestUnpackRefused(t *testing.T) {
	for _, n := range []int{0, 65, 66, 128, 1000} {
		l := make([]uint64, n)
		for i := range l {
			l[i] = ones
		}
		if got, e := lanes.Unpack(l); e != api.ErrArg || got != (square{}) {
			t.Errorf("Unpack of %d numbers = %x, %d", n, got, e)
		}
	}
	if got, e := lanes.Unpack(nil); e != api.ErrArg || got != (square{}) {
		t.Errorf("Unpack(nil) = %x, %d", got, e)
	}
}

// P5.3: the example.
func TestLaneExample(t *testing.T) {
	if got, e := lanes.Lane([]uint64{5, 6}, 1); e != api.OK || got != 2 {
		t.Errorf("Lane of 5, 6, 1 = %d, %d", got, e)
	}
}

// P5.3: no numbers, too many, no such lane.
func TestLaneRefused(t *testing.T) {
	for _, n := range []int{0, 1, 8, 64, 65, 66, 1000} {
		l := make([]uint64, n)
		for i := range l {
			l[i] = ones
		}
		for _, lane := range []int{0, 63, -1, 64, -64, 65, 128, math.MaxInt, math.MinInt} {
			if n >= 1 && n <= 64 && lane >= 0 && lane <= 63 {
				continue
			}
			if got, e := lanes.Lane(l, lane); e != api.ErrArg || got != 0 {
				t.Errorf("Lane of %d numbers, %d = %x, %d", n, lane, got, e)
			}
			set, e := lanes.Set(l, lane, 0)
			refused(t, fmt.Sprintf("Set of %d numbers, %d, 0", n, lane), set, e)
		}
	}
}

// P5.3: that lane has the word, all others what they had; the lanes handed in keep theirs.
func TestSet(t *testing.T) {
	d := dice(55)
	for n := 1; n <= 64; n++ {
		l := d.words(n, 64)
		kept := slices.Clone(l)
		for lane := range 64 {
			for _, w := range []uint64{d.word(n), 0, top(n), 1 << (n - 1)} {
				set, e := lanes.Set(l, lane, w)
				if e != api.OK || len(set) != n {
					t.Fatalf("Set(%x, %d, %x) = %x, %d", kept, lane, w, set, e)
				}
				holdSet(t, kept, lane, w, set)
				if !slices.Equal(l, kept) {
					t.Fatalf("Set(%x, %d, %x) changed them to %x", kept, lane, w, l)
				}
			}
		}
	}
}

// holdSet holds lanes that Set told of l against what each lane is to have.
func holdSet(t *testing.T, l []uint64, lane int, w uint64, set []uint64) {
	t.Helper()
	for other := range 64 {
		want := has(l, other)
		if other == lane {
			want = w
		}
		if got := has(set, other); got != want {
			t.Fatalf("Set(%x, %d, %x): lane %d has %x, want %x", l, lane, w, other, got, want)
		}
	}
}

// P5.3: a word that does not fit in just that many numbers.
func TestSetRefused(t *testing.T) {
	for n := 1; n <= 63; n++ {
		l := make([]uint64, n)
		for _, w := range []uint64{1 << n, 1<<n + 1, 1 << 63, ones} {
			for _, lane := range []int{0, 1, 62, 63} {
				set, e := lanes.Set(l, lane, w)
				refused(t, fmt.Sprintf("Set of %d numbers, %d, %x", n, lane, w), set, e)
			}
		}
	}
	set, e := lanes.Set(nil, 0, 0)
	refused(t, "Set(nil, 0, 0)", set, e)
	set, e = lanes.Set(nil, 0, 1)
	refused(t, "Set(nil, 0, 1)", set, e)
}

// P5.4: 0, all ones, each bit alone and any other word, at each width.
func TestFill(t *testing.T) {
	d := dice(56)
	for width := 1; width <= 64; width++ {
		words := []uint64{0, top(width), d.word(width), d.word(width)}
		for i := range width {
			words = append(words, 1<<i)
		}
		for _, w := range words {
			l, e := lanes.Fill(width, w)
			if e != api.OK || len(l) != width {
				t.Fatalf("Fill(%d, %x) = %x, %d", width, w, l, e)
			}
			for lane := range 64 {
				if got := has(l, lane); got != w {
					t.Fatalf("Fill(%d, %x): lane %d has %x", width, w, lane, got)
				}
			}
		}
	}
}

// P5.4: the example.
func TestFillExample(t *testing.T) {
	if l, e := lanes.Fill(2, 1); e != api.OK || !slices.Equal(l, []uint64{ones, 0}) {
		t.Errorf("Fill(2, 1) = %x, %d", l, e)
	}
}

// P5.4: widths that are none, and words that are not below 2^width.
func TestFillRefused(t *testing.T) {
	for _, width := range []int{0, 65, -1, 66, 128, -64, math.MaxInt, math.MinInt} {
		for _, w := range []uint64{0, 1, ones} {
			l, e := lanes.Fill(width, w)
			refused(t, fmt.Sprintf("Fill(%d, %x)", width, w), l, e)
		}
	}
	for width := 1; width <= 63; width++ {
		for _, w := range []uint64{1 << width, 1<<width + 1, 1 << 63, ones} {
			l, e := lanes.Fill(width, w)
			refused(t, fmt.Sprintf("Fill(%d, %x)", width, w), l, e)
		}
	}
}

// P5.4: 0, all ones, each bit alone, the lowest ones, and any others.
func TestCount(t *testing.T) {
	if got := lanes.Count(0); got != 0 {
		t.Errorf("Count(0) = %d", got)
	}
	for i := range 64 {
		if got := lanes.Count(1 << i); got != 1 {
			t.Errorf("Count of bit %d alone = %d", i, got)
		}
		if got := lanes.Count(ones >> i); got != 64-i {
			t.Errorf("Count of %d ones = %d", 64-i, got)
		}
	}
	d := dice(57)
	for range 1000 {
		mask := d.word(64)
		want := 0
		for i := range 64 {
			want += int(mask >> i & 1)
		}
		if got := lanes.Count(mask); got != want {
			t.Fatalf("Count(%x) = %d, want %d", mask, got, want)
		}
	}
}

// P5.5: Unpack of Pack tells the words.
func TestUnpackOfPack(t *testing.T) {
	d := dice(58)
	for width := 1; width <= 64; width++ {
		for _, n := range []int{0, 1, 7, 63, 64} {
			words := d.words(n, width)
			var want square
			copy(want[:], words)
			if got := unpack(t, pack(t, width, words...)); got != want {
				t.Fatalf("Unpack of Pack(%d, %x...) = %x", width, words, got)
			}
		}
	}
}

// P5.5: Pack of what Unpack tells, of as many numbers, is the lanes.
func TestPackOfUnpack(t *testing.T) {
	d := dice(59)
	for n := 1; n <= 64; n++ {
		l := d.words(n, 64)
		words := unpack(t, l)
		if got := pack(t, n, words[:]...); !slices.Equal(got, l) {
			t.Fatalf("Pack of Unpack(%x) = %x", l, got)
		}
	}
}

// P5.6: and, or, turned, done bit by bit to lanes, are done to the word of each lane.
func TestLanesAlone(t *testing.T) {
	d := dice(60)
	for width := 1; width <= 64; width++ {
		a, b := d.words(64, width), d.words(64, width)
		la, lb := pack(t, width, a...), pack(t, width, b...)
		and, or, not := make([]uint64, width), make([]uint64, width), make([]uint64, width)
		for i := range width {
			and[i], or[i], not[i] = la[i]&lb[i], la[i]|lb[i], ^la[i]
		}
		both, one, none := unpack(t, and), unpack(t, or), unpack(t, not)
		for lane := range 64 {
			if both[lane] != a[lane]&b[lane] || one[lane] != a[lane]|b[lane] || none[lane] != ^a[lane]&top(width) {
				t.Fatalf("width %d, lane %d of %x, %x: and %x, or %x, turned %x", width, lane, a[lane], b[lane], both[lane], one[lane], none[lane])
			}
		}
	}
}

// P5.6: a word in one lane changes nothing in others.
func TestOtherLanes(t *testing.T) {
	d := dice(61)
	words := d.words(64, 16)
	l := pack(t, 16, words...)
	for lane := range 64 {
		words[lane] = d.word(16)
		set, e := lanes.Set(l, lane, words[lane])
		if e != api.OK || !slices.Equal(set, pack(t, 16, words...)) {
			t.Fatalf("Set in lane %d = %x, %d, want what Pack tells", lane, set, e)
		}
		l = set
	}
}

// P5.2 to P5.4: what is answered is new memory.
func TestNewMemory(t *testing.T) {
	words := []uint64{1, 2, 3}
	first, second := pack(t, 2, words...), pack(t, 2, words...)
	first[0], first[1] = 77, 77
	if !slices.Equal(words, []uint64{1, 2, 3}) || !slices.Equal(second, []uint64{5, 6}) {
		t.Errorf("Pack: %v, %v", words, second)
	}
	set, _ := lanes.Set(second, 63, 0)
	set[0], set[1] = 77, 77
	if !slices.Equal(second, []uint64{5, 6}) {
		t.Errorf("Set: %v", second)
	}
	one, _ := lanes.Fill(2, 1)
	one[0], one[1] = 77, 77
	if other, _ := lanes.Fill(2, 1); !slices.Equal(other, []uint64{ones, 0}) {
		t.Errorf("Fill: %v", other)
	}
}
