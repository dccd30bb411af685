package slab_test

import (
	"bytes"
	"math"
	"testing"

	"undercroft/api"
	"undercroft/slab"
)

// places are just inside and just outside of a block's ends, and at the ends of int.
var places = []int{
	math.MinInt, math.MinInt + 1, math.MinInt + 1023, math.MinInt + 1024, math.MinInt32, -1025, -1024, -1023, -5, -4, -3, -2, -1,
	0, 1, 2, 3, 4, 5, 255, 256, 511, 1018, 1019, 1020, 1021, 1022, 1023, 1024, 1025, 2048,
	math.MaxInt32, math.MaxInt - 1024, math.MaxInt - 1023, math.MaxInt - 3, math.MaxInt - 1, math.MaxInt,
}

// motley is a block in which no two bytes that stand near each other are alike, and none is 0.
func motley() api.Block {
	var b api.Block
	for i := range b {
		b[i] = byte(i%251) + 1
	}
	return b
}

func run(n int) []byte {
	p := make([]byte, n)
	for i := range p {
		p[i] = byte(i*7 + 3)
	}
	return p
}

// offset tells which of the n places from at on is q, or -1: the difference is reckoned in uint64, where it can't wrap round.
func offset(q, at, n int) int {
	if q < at || n < 1 {
		return -1
	}
	d := uint64(q) - uint64(at)
	if d >= uint64(n) {
		return -1
	}
	return int(d)
}

// number reads n bytes by the document's words: 0 if not all places are inside.
func number(b api.Block, at, n int) uint64 {
	sum, met, weight := uint64(0), 0, uint64(1)
	for q := range b {
		if offset(q, at, n) >= 0 {
			sum += weight * uint64(b[q])
			weight *= 256
			met++
		}
	}
	if met < n {
		return 0
	}
	return sum
}

// P1.1
func TestNumbersAreRead(t *testing.T) {
	for _, b := range []api.Block{{}, motley()} {
		for _, at := range places {
			if got, want := slab.U16(b, at), number(b, at, 2); uint64(got) != want {
				t.Errorf("U16 at %d: %#x, not %#x", at, got, want)
			}
			if got, want := slab.U32(b, at), number(b, at, 4); uint64(got) != want {
				t.Errorf("U32 at %d: %#x, not %#x", at, got, want)
			}
		}
		for at := range b {
			if got, want := slab.U16(b, at), number(b, at, 2); uint64(got) != want {
				t.Errorf("U16 at %d: %#x, not %#x", at, got, want)
			}
			if got, want := slab.U32(b, at), number(b, at, 4); uint64(got) != want {
				t.Errorf("U32 at %d: %#x, not %#x", at, got, want)
			}
		}
	}
	var high api.Block
	high[1020], high[1021], high[1022], high[1023] = 0x01, 0x80, 0xfe, 0xff
	if got := slab.U16(high, 1022); got != 0xfffe {
		t.Errorf("U16 of the last two bytes: %#x", got)
	}
	if got := slab.U32(high, 1020); got != 0xfffe8001 {
		t.Errorf("U32 of the last four bytes: %#x", got)
	}
}

// set is what SetU16 and SetU32 ought to give, by the document's words.
func set(b api.Block, at, n int, v uint64) api.Block {
	if at < 0 || at > 1023 || at+n-1 > 1023 {
		return b
	}
	for i := range n {
		b[at+i] = byte(v % 256)
		v /= 256
	}
	return b
}

// P1.2
func TestNumbersAreLaid(t *testing.T) {
	at1024 := append([]int{}, places...)
	for at := range api.BlockSize {
		at1024 = append(at1024, at)
	}
	for _, b := range []api.Block{{}, motley()} {
		was := b
		for _, at := range at1024 {
			for _, v := range []uint16{0, 1, 0xff, 0x100, 0x1234, 0x8000, math.MaxUint16} {
				if slab.SetU16(b, at, v) != set(b, at, 2, uint64(v)) {
					t.Errorf("SetU16 at %d of %#x", at, v)
				}
			}
			for _, v := range []uint32{0, 1, 0xff00, 0x10000, 0x12345678, 0x80000000, math.MaxUint32} {
				if slab.SetU32(b, at, v) != set(b, at, 4, uint64(v)) {
					t.Errorf("SetU32 at %d of %#x", at, v)
				}
			}
		}
		if b != was {
			t.Error("a block that was handed in has changed")
		}
	}
}

// P1.3
func TestPiece(t *testing.T) {
	b := motley()
	for _, at := range places {
		for _, n := range places {
			var want []byte
			for q := range b {
				if offset(q, at, n) >= 0 {
					want = append(want, b[q])
				}
			}
			if got := slab.Piece(b, at, n); !bytes.Equal(got, want) {
				t.Errorf("Piece at %d of %d: %d bytes, not %d", at, n, len(got), len(want))
			}
		}
	}
}

func TestPieceIsNewMemory(t *testing.T) {
	b := motley()
	p, q := slab.Piece(b, 10, 5), slab.Piece(b, 10, 5)
	for i := range p[:cap(p)] {
		p[:cap(p)][i] = 0
	}
	if b != motley() || !bytes.Equal(q, b[10:15]) || !bytes.Equal(slab.Piece(b, 10, 5), b[10:15]) {
		t.Error("a piece shares its memory")
	}
	b[10] = 0
	if q[0] != motley()[10] {
		t.Error("a piece changes with its block")
	}
}

// P1.4
func TestLay(t *testing.T) {
	for _, b := range []api.Block{{}, motley()} {
		for _, at := range places {
			for _, n := range []int{0, 1, 2, 3, 4, 1022, 1023, 1024, 1025, 1026, 2047, 2048, 3000} {
				p := run(n)
				want := b
				for q := range want {
					if i := offset(q, at, n); i >= 0 {
						want[q] = p[i]
					}
				}
				was := b
				if slab.Lay(b, at, p) != want {
					t.Errorf("Lay at %d of %d bytes", at, n)
				}
				if b != was || !bytes.Equal(p, run(n)) {
					t.Errorf("Lay at %d of %d bytes changes what was handed in", at, n)
				}
			}
			if slab.Lay(b, at, nil) != b {
				t.Errorf("Lay at %d of nil", at)
			}
		}
	}
}

func TestLayLeavesSpareRoomAlone(t *testing.T) {
	room := run(20)
	if got := slab.Lay(api.Block{}, 0, room[5:10]); got[4] != room[9] || got[5] != 0 {
		t.Error("bytes behind the list came to lie in the block")
	}
	if !bytes.Equal(room, run(20)) {
		t.Error("the list's spare room has changed")
	}
}

// P1.5
func TestBlank(t *testing.T) {
	if !slab.Blank(api.Block{}) {
		t.Error("the blank block is not blank")
	}
	if slab.Blank(motley()) {
		t.Error("a full block is blank")
	}
	for i := range api.BlockSize {
		var b api.Block
		b[i] = 1 << (i % 8)
		if slab.Blank(b) {
			t.Errorf("a block with a byte at %d is blank", i)
		}
	}
}

// P1.6
func TestCut(t *testing.T) {
	for n, blocks := range map[int]int{0: 0, 1: 1, 1023: 1, 1024: 1, 1025: 2, 2047: 2, 2048: 2, 2049: 3, 5000: 5} {
		p := run(n)
		l := slab.Cut(p)
		if len(l) != blocks {
			t.Errorf("Cut of %d bytes: %d blocks, not %d", n, len(l), blocks)
			continue
		}
		for i := range l {
			for j, got := range l[i] {
				want := byte(0)
				if 1024*i+j < n {
					want = p[1024*i+j]
				}
				if got != want {
					t.Fatalf("Cut of %d bytes: byte %d of block %d: %d, not %d", n, j, i, got, want)
				}
			}
		}
		if !bytes.Equal(p, run(n)) {
			t.Errorf("Cut of %d bytes changes them", n)
		}
	}
	if len(slab.Cut(nil)) != 0 {
		t.Error("Cut of nil")
	}
}

func TestCutLeavesSpareRoomAlone(t *testing.T) {
	room := run(2000)
	l := slab.Cut(room[:1025])
	if len(l) != 2 || l[1][0] != room[1024] || l[1][1] != 0 {
		t.Error("bytes behind the list came to lie in a block")
	}
	room[0]++
	if l[0][0] != run(1)[0] {
		t.Error("blocks change with what was cut")
	}
}

// P1.7
func TestJoin(t *testing.T) {
	b := motley()
	for _, l := range [][]api.Block{nil, {}, {b}, {b, {}, b}} {
		var all []byte
		for _, x := range l {
			all = append(all, x[:]...)
		}
		for _, n := range append([]int{3000, 3071, 3072, 3073}, places...) {
			want := all[:max(0, min(n, len(all)))]
			if got := slab.Join(l, n); !bytes.Equal(got, want) {
				t.Errorf("Join of %d blocks, %d bytes: %d bytes, not %d", len(l), n, len(got), len(want))
			}
		}
	}
}

func TestJoinIsNewMemory(t *testing.T) {
	l := []api.Block{motley(), motley()}
	p, q := slab.Join(l[:1], 1000), slab.Join(l[:1], 1000)
	for i := range p[:cap(p)] {
		p[:cap(p)][i] = 0
	}
	if l[0] != motley() || l[1] != motley() || q[0] != l[0][0] {
		t.Error("joined bytes share their memory")
	}
	l[0][0] = 0
	if q[0] != motley()[0] {
		t.Error("joined bytes change with the blocks")
	}
}

// P1.8
func TestWhatFollows(t *testing.T) {
	for n := range 3100 {
		p := run(n)
		if !bytes.Equal(slab.Join(slab.Cut(p), len(p)), p) {
			t.Errorf("Join of Cut of %d bytes", n)
		}
	}
	b := motley()
	for _, at := range places {
		two, four := slab.SetU16(b, at, 0xa55a), slab.SetU32(b, at, 0xdeadbeef)
		if at >= 0 && at <= 1022 && slab.U16(two, at) != 0xa55a {
			t.Errorf("U16 of SetU16 at %d", at)
		}
		if at >= 0 && at <= 1020 && slab.U32(four, at) != 0xdeadbeef {
			t.Errorf("U32 of SetU32 at %d", at)
		}
		for q := range b {
			if offset(q, at, 2) < 0 && two[q] != b[q] {
				t.Errorf("SetU16 at %d: byte %d", at, q)
			}
			if offset(q, at, 4) < 0 && four[q] != b[q] {
				t.Errorf("SetU32 at %d: byte %d", at, q)
			}
		}
		for _, n := range []int{0, 1, 3, 1024, 1025, 2100} {
			p := run(n)
			var came []byte
			for q := range b {
				if i := offset(q, at, n); i >= 0 {
					came = append(came, p[i])
				}
			}
			if !bytes.Equal(slab.Piece(slab.Lay(b, at, p), at, len(p)), came) {
				t.Errorf("Piece of Lay at %d of %d bytes", at, n)
			}
		}
	}
}

// The chapter's examples, as they stand there.
func TestExamples(t *testing.T) {
	var blank api.Block
	b := slab.SetU16(blank, 0, 0x1234)
	if b[0] != 0x34 || b[1] != 0x12 || !slab.Blank(slab.Lay(b, 0, []byte{0, 0})) || slab.U16(b, 0) != 0x1234 || slab.U16(b, 1) != 0x12 {
		t.Error("SetU16(blank, 0, 0x1234)")
	}
	b = slab.SetU32(blank, 1020, 7)
	if b[1020] != 7 || slab.U32(b, 1020) != 7 || slab.U32(b, 1021) != 0 || slab.U32(b, -1) != 0 {
		t.Error("SetU32(blank, 1020, 7)")
	}
	if slab.SetU16(blank, 1023, 7) != blank || slab.SetU32(blank, -1, 7) != blank {
		t.Error("numbers that are not inside")
	}
	b = motley()
	if !bytes.Equal(slab.Piece(b, -2, 4), b[:2]) || !bytes.Equal(slab.Piece(b, 1022, 9), b[1022:]) || len(slab.Piece(b, 5, 0)) != 0 {
		t.Error("pieces")
	}
	if slab.Lay(blank, -1, []byte{1, 2, 3}) != (api.Block{2, 3}) || slab.Lay(blank, 1023, []byte{1, 2, 3}) != (api.Block{1023: 1}) {
		t.Error("bytes that are laid")
	}
	if len(slab.Cut(nil)) != 0 || len(slab.Cut(run(1024))) != 1 {
		t.Error("Cut of no bytes, of 1024")
	}
	if l := slab.Cut(run(1025)); len(l) != 2 || l[1] != (api.Block{run(1025)[1024]}) {
		t.Error("Cut of 1025 bytes")
	}
	one := []api.Block{b}
	if !bytes.Equal(slab.Join(one, 3), b[:3]) || !bytes.Equal(slab.Join(one, 2000), b[:]) || len(slab.Join(nil, 5)) != 0 || len(slab.Join(one, -1)) != 0 {
		t.Error("blocks that are joined")
	}
}
