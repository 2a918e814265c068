// Package vint has numbers as bytes, in one way alone: digits of seven bits, the lowest first.
package vint

import (
	"math/bits"

	"retrace/api"
)

const (
	digitBits = 7
	more      = 1 << digitBits // in a byte that is not the last one
	maxBytes  = 10             // a number below 2^64 has no more
	lastTop   = 1              // the tenth byte holds one bit alone
)

// Zig folds ints into numbers so that those near 0 have few bytes.
func Zig(n int64) uint64 {
	return uint64(n)<<1 ^ uint64(n>>63)
}

// Zag is Zig's way back.
func Zag(u uint64) int64 {
	return int64(u>>1) ^ -int64(u&1)
}

// Size tells how many bytes u has.
func Size(u uint64) int {
	// 0 has no bits, and one byte all the same.
	return (bits.Len64(u|1) + digitBits - 1) / digitBits
}

// Put answers s, and behind it the bytes of u.
func Put(s string, u uint64) string {
	var digits [maxBytes]byte
	n := 0
	for ; u >= more; n++ {
		digits[n] = byte(u) | more
		u >>= digitBits
	}
	digits[n] = byte(u)
	return s + string(digits[:n+1])
}

// Get tells the number whose bytes stand in s from the place at on, and the place behind them.
func Get(s string, at int) (uint64, int, api.Errno) {
	if at < 0 || at > len(s) {
		return 0, 0, api.ErrArg
	}
	var u uint64
	next := at
digits:
	for n := 0; ; n++ {
		if next == len(s) {
			return 0, 0, api.ErrShort
		}
		b := s[next]
		next++
		u |= uint64(b%more) << (digitBits * n)
		switch {
		case n == maxBytes-1 && b > lastTop, n > 0 && b == 0:
			return 0, 0, api.ErrForm
		case b < more:
			break digits
		}
	}
	return u, next, api.OK
}

// PutInt answers s, and behind it the bytes of n.
func PutInt(s string, n int64) string {
	return Put(s, Zig(n))
}

// GetInt tells the int whose bytes stand in s from the place at on, and the place behind them.
func GetInt(s string, at int) (int64, int, api.Errno) {
	u, next, fault := Get(s, at)
	return Zag(u), next, fault
}
