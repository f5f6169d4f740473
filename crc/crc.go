// Package crc is layer 1: the sum that is told by CRC-32, of bytes that are there, and of bytes of which only the sums are.
package crc

import (
	"cuneiform/api"
)

const (
	divisor = 0xEDB88320
	most    = 1 << 30 // the greatest number of bytes that a sum is moved over
)

// Put is a remainder with a byte.
func Put(r uint32, b byte) uint32 {
	r ^= uint32(b)
	for range 8 {
		// Without a branch, since a remainder's digits can't be foretold.
		r = r>>1 ^ divisor&-(r&1)
	}
	return r
}

// Sum is bytes' sum.
func Sum(b []byte) uint32 {
	return More(0, b)
}

// More is a sum that goes on.
func More(sum uint32, b []byte) uint32 {
	r := ^sum
	for _, x := range b {
		r = Put(r, x)
	}
	return ^r
}

// Zeros is a sum with n bytes 0 behind.
func Zeros(sum uint32, n int) (uint32, api.Errno) {
	if n < 0 || n > most {
		return 0, api.ErrArg
	}
	return ^over(^sum, n), api.OK
}

// Join is the sum of two rows of bytes, one behind the other, of which the second one has n bytes.
func Join(a, b uint32, n int) (uint32, api.Errno) {
	if n < 0 || n > most {
		return 0, api.ErrArg
	}
	// What both sums have of the first remainder and of the turning at the end meets itself, and is gone.
	return over(a, n) ^ b, api.OK
}

// Patch is the sum of n bytes of which one, that was old, is now.
func Patch(sum uint32, n, at int, old, now byte) (uint32, api.Errno) {
	if n < 1 || n > most || at < 0 || at >= n {
		return 0, api.ErrArg
	}
	return sum ^ over(Put(0, old^now), n-1-at), api.OK
}

// columns is a step that keeps exclusive-or: what it makes of each of a remainder's digits alone.
type columns [32]uint32

// of is what the step makes of a remainder.
func (m columns) of(r uint32) uint32 {
	var s uint32
	for i := range 32 {
		s ^= m[i] & -(r >> i & 1)
	}
	return s
}

// twice is the step done twice.
func (m columns) twice() columns {
	var t columns
	for i := range 32 {
		t[i] = m.of(m[i])
	}
	return t
}

// over is a remainder that n bytes 0 were put to: by squares, since n may be far too many to put them one by one.
func over(r uint32, n int) uint32 {
	var step columns
	for i := range 32 {
		step[i] = Put(1<<i, 0)
	}
	for n > 0 {
		if n&1 == 1 {
			r = step.of(r)
		}
		step = step.twice()
		n >>= 1
	}
	return r
}
