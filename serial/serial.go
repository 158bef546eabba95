// Package serial handles indexes that wrap around, and event suppression: positions in a ring with a wrap counter, their words, and whether an event is needed.
package serial

import (
	"dumbwaiter/api"
)

// wrapBit is the bit of a position's word that contains the wrap counter.
const wrapBit = 1 << 15

// Dist returns the distance from b to a, modulo 2^16.
func Dist(a, b uint16) uint16 { return a - b }

// Need reports whether the index of the event was passed on the way from old to next.
func Need(event, next, old uint16) bool {
	return Dist(next, event)-1 < Dist(next, old)
}

// Start returns the position at which each ring begins.
func Start() api.Pos { return api.Pos{At: 0, Wrap: true} }

// Check returns ErrArg if the size, or the position in a ring of that size, is not valid.
func Check(p api.Pos, size int) api.Errno {
	if !validSize(size) || p.At < 0 || p.At >= size {
		return api.ErrArg
	}
	return api.OK
}

// Go returns the position advanced by a number from 0 to size.
func Go(p api.Pos, by, size int) (api.Pos, api.Errno) {
	if e := checkMove(p, by, size); e != api.OK {
		return api.Pos{}, e
	}
	p.At += by
	if p.At >= size {
		p.At -= size
		p.Wrap = !p.Wrap
	}
	return p, api.OK
}

// Word returns the position as a word: the low 15 bits of its index, and the wrap counter above them.
func Word(p api.Pos) uint16 {
	w := uint16(p.At) &^ wrapBit
	if p.Wrap {
		w |= wrapBit
	}
	return w
}

// Read returns the position whose word is w; ErrBad if none in a ring of that size has it.
func Read(w uint16, size int) (api.Pos, api.Errno) {
	if !validSize(size) {
		return api.Pos{}, api.ErrArg
	}
	p := api.Pos{At: int(w &^ wrapBit), Wrap: w&wrapBit != 0}
	if Check(p, size) != api.OK {
		return api.Pos{}, api.ErrBad
	}
	return p, api.OK
}

// NeedAt reports whether the event was passed when the position was advanced by a number to next.
func NeedAt(event, next api.Pos, by, size int) (bool, api.Errno) {
	for _, p := range [...]api.Pos{event, next} {
		if e := checkMove(p, by, size); e != api.OK {
			return false, e
		}
	}
	// Indexes count from the beginning of next's lap, so an event of the other lap is before it.
	if event.Wrap != next.Wrap {
		event.At -= size
	}
	return Need(uint16(event.At), uint16(next.At), uint16(next.At-by)), api.OK
}

// Between returns by how much a must be advanced to reach b, from 0 to 2 * size - 1.
func Between(a, b api.Pos, size int) (int, api.Errno) {
	for _, p := range [...]api.Pos{a, b} {
		if e := Check(p, size); e != api.OK {
			return 0, e
		}
	}
	n := b.At - a.At
	if a.Wrap != b.Wrap {
		n += size
	}
	// With the same wrap counter, what is behind a is reached only after two laps.
	if n < 0 {
		n += 2 * size
	}
	return n, api.OK
}

// Power reports whether n is a power of 2 from 1 to api.MaxSize.
func Power(n int) bool {
	return validSize(n) && isPower(uint64(n))
}

// Align returns the smallest multiple of to, a power of 2, that is at least n.
func Align(n, to uint64) (uint64, api.Errno) {
	if !isPower(to) {
		return 0, api.ErrArg
	}
	// Of the multiples of to below 2^64, -to is the greatest.
	if n > -to {
		return 0, api.ErrArg
	}
	return (n + to - 1) &^ (to - 1), api.OK
}

func validSize(size int) bool { return size >= 1 && size <= api.MaxSize }

func isPower(n uint64) bool { return n != 0 && n&(n-1) == 0 }

// checkMove returns ErrArg unless the position is valid, and can be advanced by that number.
func checkMove(p api.Pos, by, size int) api.Errno {
	if e := Check(p, size); e != api.OK {
		return e
	}
	if by < 0 || by > size {
		return api.ErrArg
	}
	return api.OK
}
