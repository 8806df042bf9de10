package trace

import "orrery/api"

// wrong is the error of a text that is none of a table; a reader gives up by a panic with it.
type wrong api.Errno

// reader goes through a text byte by byte. It refuses a wrong byte as soon as it comes to it: only so is a text that ends too early, and is not refused, the beginning of another one.
type reader struct{ left []byte }

// read is the table whose text b is.
func read(b []byte) (t Table, e api.Errno) {
	defer func() {
		switch is := recover().(type) {
		case nil:
		case wrong:
			e = api.Errno(is)
		default:
			panic(is)
		}
	}()
	r := reader{b}
	return r.table(), api.OK
}

// table reads all that is left.
func (r *reader) table() Table {
	t := Table{Buses: r.buses()}
	most := greatest(t.Buses)
	for len(r.left) > 0 {
		must(len(t.Rows) < MaxRows)
		t.Rows = append(t.Rows, r.row(most))
	}
	return t
}

// buses reads the first line.
func (r *reader) buses() []Bus {
	var buses []Bus
	for behind := byte(' '); behind == ' '; {
		must(len(buses) < MaxBuses)
		name := r.name()
		must(at(buses, name) < 0)
		width, next := r.number(10, 1, maxWidth)
		must(next == ' ' || next == '\n')
		buses = append(buses, Bus{name, int(width)})
		behind = next
	}
	return buses
}

// row reads a line of numbers, each at most what most says.
func (r *reader) row(most []uint64) []uint64 {
	row := make([]uint64, len(most))
	for i, top := range most {
		n, behind := r.number(16, 0, top)
		if i < len(most)-1 {
			must(behind == ' ')
		} else {
			must(behind == '\n')
		}
		row[i] = n
	}
	return row
}

// name reads a bus's name, and the colon behind it.
func (r *reader) name() string {
	var name []byte
	c := r.next()
	for ; maySpell(c); c = r.next() {
		must(len(name) < maxName)
		name = append(name, c)
	}
	must(c == ':' && len(name) > 0)
	return string(name)
}

// number reads a number from least (0 or 1) to most in its shortest form, and the byte behind it.
func (r *reader) number(base, least, most uint64) (n uint64, behind byte) {
	for digits := 0; ; digits++ {
		c := r.next()
		d, is := digit(c)
		if !is || d >= base {
			must(digits > 0)
			return n, c
		}
		// A nought in front is the number's only digit.
		must(digits == 0 || n > 0)
		must(d <= most && n <= (most-d)/base)
		n = n*base + d
		must(n >= least)
	}
}

// next reads a byte.
func (r *reader) next() byte {
	if len(r.left) == 0 {
		panic(wrong(api.ErrShort))
	}
	c := r.left[0]
	r.left = r.left[1:]
	return c
}

// must gives up a text in which this does not hold.
func must(holds bool) {
	if !holds {
		panic(wrong(api.ErrForm))
	}
}

// digit is what this byte counts as a digit, and whether it is one.
func digit(c byte) (uint64, bool) {
	switch {
	case '0' <= c && c <= '9':
		return uint64(c - '0'), true
	case 'a' <= c && c <= 'f':
		return uint64(c-'a') + 10, true
	}
	return 0, false
}
