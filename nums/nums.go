// Package nums is layer 1: numbers from 0 to a greatest one, and two in one: see shared/doc/01-nums.md.
package nums

import (
	"math/bits"
	"strconv"

	"kevel/api"
)

// The greatest number that is unpacked is above each that Pack makes, so that none of these is cut.
const maxPacked = 1 << 42

// Clamp is the nearest number from 0 to top.
func Clamp(n, top int) int { return cut(n, cut(top, api.MaxWord)) }

// Wrap is a number modulo top + 1.
func Wrap(n, top int) int {
	many := cut(top, api.MaxWord) + 1
	left := n % many
	// Go's remainder has the sign of what is divided.
	if left < 0 {
		left += many
	}
	return left
}

// Pack is two numbers in one.
func Pack(hi, lo, top int) int {
	most := cut(top, api.MaxRoom)
	return cut(hi, api.MaxRoom)*(most+1) + cut(lo, most)
}

// Unpack is the two numbers of one.
func Unpack(x, top int) (int, int) {
	many := cut(top, api.MaxRoom) + 1
	whole := cut(x, maxPacked)
	return whole / many, whole % many
}

// Levels is how often 1 is doubled till it is not below n.
func Levels(n int) int {
	// Bits are counted, not doublings: 2^63, which the greatest int asks for, is no int.
	return bits.Len(uint(max(n, 1) - 1))
}

// Digits is a number in decimal.
func Digits(n int) string { return strconv.Itoa(n) }

// cut is the nearest number from 0 to most, which is not below 0.
func cut(n, most int) int { return min(max(n, 0), most) }
