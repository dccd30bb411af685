// Package slab is layer 1: a block's bytes and numbers: see shared/doc/01-slab.md.
package slab

import "undercroft/api"

// U16 is the number of two bytes from a place on, the lower one first.
func U16(b api.Block, at int) uint16 {
	if !fits(at, 2) {
		return 0
	}
	return uint16(b[at]) | uint16(b[at+1])<<8
}

// U32 is the number of four bytes from a place on, the lowest first.
func U32(b api.Block, at int) uint32 {
	if !fits(at, 4) {
		return 0
	}
	return uint32(b[at]) | uint32(b[at+1])<<8 | uint32(b[at+2])<<16 | uint32(b[at+3])<<24
}

// SetU16 lays a number of two bytes into a block.
func SetU16(b api.Block, at int, v uint16) api.Block {
	if fits(at, 2) {
		b[at], b[at+1] = byte(v), byte(v>>8)
	}
	return b
}

// SetU32 lays a number of four bytes into a block.
func SetU32(b api.Block, at int, v uint32) api.Block {
	if fits(at, 4) {
		b[at], b[at+1], b[at+2], b[at+3] = byte(v), byte(v>>8), byte(v>>16), byte(v>>24)
	}
	return b
}

// Piece gives some bytes of a block, those that are inside.
func Piece(b api.Block, at, n int) []byte {
	from, to := inside(at, n)
	p := make([]byte, to-from)
	copy(p, b[from:to])
	return p
}

// Lay lays bytes into a block, those that come to lie inside.
func Lay(b api.Block, at int, p []byte) api.Block {
	from, to := inside(at, len(p))
	if from < to { // else from - at could wrap round, and nothing of p is wanted
		copy(b[from:to], p[from-at:])
	}
	return b
}

// Blank tells whether all bytes are 0.
func Blank(b api.Block) bool { return b == api.Block{} }

// Cut lays bytes out as blocks.
func Cut(p []byte) []api.Block {
	n := len(p) / api.BlockSize
	if len(p)%api.BlockSize > 0 {
		n++
	}
	l := make([]api.Block, n)
	for i := range l {
		copy(l[i][:], p[i*api.BlockSize:])
	}
	return l
}

// Join lays blocks one behind the other, as far as n bytes.
func Join(l []api.Block, n int) []byte {
	p := make([]byte, max(0, min(n, len(l)*api.BlockSize)))
	rest := p
	for i := 0; len(rest) > 0; i++ {
		rest = rest[copy(rest, l[i][:]):]
	}
	return p
}

// fits tells whether n places from at on are all inside; it takes n off the block's end and not onto at, which could wrap round.
func fits(at, n int) bool { return at >= 0 && at <= api.BlockSize-n }

// inside gives those of the n places from at on that are inside: from is the first of them, to the one behind the last; both are 0 if there are none. No sum here wraps round: at and n are added only where one is below 0 and the other is not.
func inside(at, n int) (from, to int) {
	if n < 1 || at >= api.BlockSize {
		return 0, 0
	}
	if at < 0 {
		return 0, max(0, min(at+n, api.BlockSize))
	}
	return at, at + min(n, api.BlockSize-at)
}
