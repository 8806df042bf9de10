// Package word is layer 1, whole numbers of a width: see shared/doc/01-word.md.
package word

import (
	"math"

	"orrery/api"
)

// What is done to one word.
const (
	Not = 1
	Neg = 2
)

// What is done to two words.
const (
	And = 1
	Or  = 2
	Xor = 3
	Add = 4
	Sub = 5
	Mul = 6
	Eq  = 7
	Ne  = 8
	Lt  = 9
	Le  = 10
	Gt  = 11
	Ge  = 12
)

// May tells whether t may be: a bool of width 1, or a number of 1 to 64 bits (P1.1).
func May(t api.Type) bool {
	if t.Bool {
		return !t.Signed && t.Width == 1
	}
	return t.Width >= 1 && t.Width <= 64
}

// Is tells whether t may be, and w is a word of it (P1.1).
func Is(t api.Type, w uint64) bool {
	return May(t) && Cut(t, w) == w
}

// Cut is n brought into t; 0, if t may not be (P1.1).
func Cut(t api.Type, n uint64) uint64 {
	if !May(t) {
		return 0
	}
	up := 64 - t.Width
	return n << up >> up
}

// Value is w's value, and whether an int64 holds it (P1.1).
func Value(t api.Type, w uint64) (int64, bool) {
	if !Is(t, w) || !t.Signed && w > math.MaxInt64 {
		return 0, false
	}
	return int64(wide(t, w)), true
}

// wide is w's value brought into 64 bits: no op on words needs more of it, since each type has at most so many.
func wide(t api.Type, w uint64) uint64 {
	if !t.Signed {
		return w
	}
	up := 64 - t.Width
	return uint64(int64(w<<up) >> up)
}

// One does op to a (P1.2).
func One(op int, t api.Type, a uint64) (uint64, api.Errno) {
	if !Is(t, a) {
		return 0, api.ErrArg
	}
	switch {
	case op == Not:
		return Cut(t, ^a), api.OK
	case op == Neg && !t.Bool:
		return Cut(t, -a), api.OK
	}
	return 0, api.ErrArg
}

// Two does op to a and b (P1.3).
func Two(op int, t api.Type, a, b uint64) (uint64, api.Errno) {
	if !mayTwo(op, t) || !Is(t, a) || !Is(t, b) {
		return 0, api.ErrArg
	}
	if op >= Eq {
		return compare(op, t, a, b), api.OK
	}
	return Cut(t, combine(op, a, b)), api.OK
}

// mayTwo tells whether op is one of two words of t.
func mayTwo(op int, t api.Type) bool {
	switch op {
	case And, Or, Xor, Eq, Ne:
		return true
	case Add, Sub, Mul, Lt, Le, Gt, Ge:
		return !t.Bool
	}
	return false
}

// combine works on bare words of any type: the bits that Cut leaves do not hang on those above them, nor on the sign.
func combine(op int, a, b uint64) uint64 {
	switch op {
	case And:
		return a & b
	case Or:
		return a | b
	case Xor:
		return a ^ b
	case Add:
		return a + b
	case Sub:
		return a - b
	case Mul:
		return a * b
	}
	return 0
}

// compare is 1, if what op says holds of a's and b's values, else 0.
func compare(op int, t api.Type, a, b uint64) uint64 {
	holds := false
	switch op {
	case Eq:
		holds = a == b
	case Ne:
		holds = a != b
	case Lt:
		holds = less(t, a, b)
	case Le:
		holds = !less(t, b, a)
	case Gt:
		holds = less(t, b, a)
	case Ge:
		holds = !less(t, a, b)
	}
	if holds {
		return 1
	}
	return 0
}

// less tells whether a's value is less than b's.
func less(t api.Type, a, b uint64) bool {
	if t.Signed {
		return int64(wide(t, a)) < int64(wide(t, b))
	}
	return a < b
}

// Shift is a's value by 2^by, brought into t; down, where by is below 0 (P1.4).
func Shift(t api.Type, a uint64, by int) (uint64, api.Errno) {
	if t.Bool || !Is(t, a) || by < -63 || by > 63 {
		return 0, api.ErrArg
	}
	if by >= 0 {
		return Cut(t, a<<by), api.OK
	}
	if t.Signed {
		return Cut(t, uint64(int64(wide(t, a))>>-by)), api.OK
	}
	return a >> -by, api.OK
}

// Convert is a's value brought into to (P1.5).
func Convert(from, to api.Type, a uint64) (uint64, api.Errno) {
	if !Is(from, a) || !May(to) || to.Bool && !from.Bool {
		return 0, api.ErrArg
	}
	return Cut(to, wide(from, a)), api.OK
}

// All is all of l by Two, from the left (P1.5).
func All(op int, t api.Type, l ...uint64) (uint64, api.Errno) {
	idle, is := neutral(op, t)
	if !is {
		return 0, api.ErrArg
	}
	// Two refuses an op that t has not, also where l has no word to try it on.
	so, e := Two(op, t, idle, idle)
	for _, w := range l {
		if e != api.OK {
			break
		}
		so, e = Two(op, t, so, w)
	}
	return so, e
}

// neutral is the word that changes nothing by op, if op is one of those that do not hang on order.
func neutral(op int, t api.Type) (uint64, bool) {
	switch op {
	case And:
		return Cut(t, math.MaxUint64), true
	case Or, Xor, Add:
		return 0, true
	case Mul:
		return 1, true
	}
	return 0, false
}
