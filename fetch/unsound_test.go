package fetch_test

import (
	"bytes"
	"math"
	"math/rand"
	"testing"

	"undercroft/api"
	"undercroft/fetch"
)

// bads are numbers that are no data block's, of the layout of the ten examples.
var bads = []uint32{1, 5, 32, 33, 36, 37, 400, 401, 402, 1 << 16, 1 << 20, 1<<20 + 40, 1 << 31, 1<<31 + 40, math.MaxUint32}

// Rule 8: a number that is no data block's, at each place where one can stand: ErrInval where a block is needed that is found by it, and nothing else is concerned; the errors of the arguments are ahead of it.
func TestBadNumbers(t *testing.T) {
	f := sown(1, 800*1024, 0, 3, 9, 10, 20, 265, 266, 300, 521, 522, 799)
	for _, x := range []struct {
		first, end int // the indices that are found by the number
		spoil      func(g *ground, n *api.Node, double [256]uint32, v uint32)
	}{
		{0, 1, func(g *ground, n *api.Node, _ [256]uint32, v uint32) { n.Direct[0] = v }},
		{5, 6, func(g *ground, n *api.Node, _ [256]uint32, v uint32) { n.Direct[5] = v }},
		{9, 10, func(g *ground, n *api.Node, _ [256]uint32, v uint32) { n.Direct[9] = v }},
		{10, 266, func(g *ground, n *api.Node, _ [256]uint32, v uint32) { n.Single = v }},
		{10, 11, func(g *ground, n *api.Node, _ [256]uint32, v uint32) { g.holds(n.Single, 0, v) }},
		{265, 266, func(g *ground, n *api.Node, _ [256]uint32, v uint32) { g.holds(n.Single, 255, v) }},
		{266, 800, func(g *ground, n *api.Node, _ [256]uint32, v uint32) { n.Double = v }},
		{266, 522, func(g *ground, n *api.Node, _ [256]uint32, v uint32) { g.holds(n.Double, 0, v) }},
		{522, 778, func(g *ground, n *api.Node, _ [256]uint32, v uint32) { g.holds(n.Double, 1, v) }},
		{300, 301, func(g *ground, n *api.Node, d [256]uint32, v uint32) { g.holds(d[0], 34, v) }},
		{777, 778, func(g *ground, n *api.Node, d [256]uint32, v uint32) { g.holds(d[1], 255, v) }},
	} {
		for _, v := range bads {
			g := bare(t, ten(t))
			n := g.lay(2, f)
			x.spoil(g, &n, g.table(n.Double), v)
			g.has(2, n)
			w := g.open(t)
			w.files[2] = f
			was := w.still()
			for _, at := range []int{0, x.first*1024 - 2000, x.first*1024 - 1, x.first * 1024, x.first*1024 + 1000, x.end*1024 - 1, x.end * 1024, x.end*1024 + 1, 799 * 1024, 800*1024 - 1, 800 * 1024, math.MaxInt, -1} {
				for _, count := range []int{0, 1, 2, 1025, 2001, 65536, -1} {
					want, e := w.told(2, at, count)
					// What is met is asked of the bytes that are there, one by one.
					for i := range want {
						if index := (at + i) / 1024; index >= x.first && index < x.end {
							want, e = nil, api.ErrInval
							break
						}
					}
					reads(t, w.l, 2, at, count, want, e)
				}
			}
			w.stays(t, was)
		}
	}
}

// table are the numbers of an index block.
func (g *ground) table(at uint32) [256]uint32 {
	var l [256]uint32
	b := g.now[int(at)]
	for i := range l {
		l[i] = uint32(b[4*i]) + 256*uint32(b[4*i+1]) + 65536*uint32(b[4*i+2])
	}
	return l
}

// Rule 8: numbers that are data blocks' are followed, wherever they lead: index blocks that stand below themselves, blocks of two files, bits that say otherwise.
func TestAnyNumbers(t *testing.T) {
	g := bare(t, ten(t))
	for i := range 256 {
		g.holds(50, i, 50)
	}
	g.has(2, api.Node{Kind: api.KindFile, Size: 65802 * 1024, Direct: [10]uint32{50, 38, 399, 50}, Single: 50, Double: 50})
	g.has(3, api.Node{Kind: api.KindDir, Size: 3000, Direct: [10]uint32{399, 50, 38}})
	w := g.open(t)
	loop, end := g.now[50], g.now[399]
	reads(t, w.l, 2, 0, 1024, loop[:], api.OK)
	reads(t, w.l, 2, 2048, 1024, end[:], api.OK)
	for _, index := range []int{3, 10, 265, 266, 40000, 65801} {
		reads(t, w.l, 2, index*1024, 1024, loop[:], api.OK)
	}
	reads(t, w.l, 2, 65738*1024, 65536, bytes.Repeat(loop[:], 64), api.OK)
	reads(t, w.l, 3, 1000, 100, bytes.Join([][]byte{end[1000:], loop[:76]}, nil), api.OK)
}

// quiet asks that a call ends, answers no more bytes than it was asked for and none beside an error, is ErrArg for its arguments' sake alone, and does nothing to the disk.
func (w *world) quiet(t testing.TB, inum, at, count int) {
	made := w.d.Made()
	p, err := fetch.Read(w.l, inum, at, count)
	if len(p) > max(0, count) || err != api.OK && len(p) > 0 || w.d.Made() != made {
		t.Fatalf("Read(%d, %d, %d): %d bytes, %d; %d things done", inum, at, count, len(p), err, w.d.Made()-made)
	}
	if wrong := at < 0 || count < 0 || count > 65536 || inum < 1 || inum > w.where.Geometry.Inodes; wrong != (err == api.ErrArg) {
		t.Fatalf("Read(%d, %d, %d): %d", inum, at, count, err)
	}
}

// Rule 8: inodes that may not be: sizes greater than a file may have, kinds that are none, free ones with bytes left.
func TestUnsoundInodes(t *testing.T) {
	for _, size := range []uint32{0, 1, 1024, api.MaxFile, api.MaxFile + 1, api.MaxFile + 1024, 1<<31 - 1, 1 << 31, 1<<31 + 1, math.MaxUint32 - 1, math.MaxUint32} {
		for _, kind := range []api.Kind{0, 1, 2, 3, 255, 256, 257, 65535} {
			g := bare(t, ten(t))
			for i := range 256 {
				g.holds(50, i, uint32(50+i%3))
			}
			g.has(2, api.Node{Kind: kind, Links: 65535, Size: size, Blocks: math.MaxUint32, Direct: [10]uint32{50, 51}, Single: 50, Double: 50})
			w := g.open(t)
			was := w.still()
			for _, at := range append(great(), 0, 1023, 1024, 5000, 266*1024, int(size/2), int(size/1024*1023), api.MaxFile-65537, api.MaxFile-65536, api.MaxFile-1024, api.MaxFile-1, math.MinInt, -1) {
				for _, count := range []int{0, 1, 1025, 65535, 65536, 65537, math.MaxInt, -1} {
					w.quiet(t, 2, at, count)
				}
			}
			w.stays(t, was)
			if kind == api.KindFile && size > api.MaxFile { // no byte is behind those that a file may have
				if p, err := fetch.Read(w.l, 2, api.MaxFile-5, 100); len(p) != 5 || err != api.OK {
					t.Errorf("Size %d: %d last bytes, %d", size, len(p), err)
				}
			}
		}
	}
}

// Rule 8: whatever bytes a disk has, every call ends, none panics, and nothing is written.
func TestAnyDisk(t *testing.T) {
	r := rand.New(rand.NewSource(14))
	for range 60 {
		g := bare(t, layout(t, 60, 32, 40))
		for at := g.where.NodeAt; at < g.where.Geometry.Blocks; at++ {
			b := g.now[at]
			for i := range b {
				switch r.Intn(6) {
				case 0:
					b[i] = byte(r.Intn(256))
				case 1:
					b[i] = byte(r.Intn(3))
				case 2:
					b[i] = 0
				default: // numbers of data blocks, as they stand in inodes and index blocks
					b[i] = []byte{byte(40 + r.Intn(20)), 0, 0, 0}[i%4]
				}
			}
			g.now[at] = b
		}
		w := g.open(t)
		was := w.still()
		for range 300 {
			at := r.Intn(api.MaxFile)
			if r.Intn(2) == 0 {
				at = r.Intn(300 * 1024)
			}
			w.quiet(t, r.Intn(43)-1, at, r.Intn(5000))
		}
		for inum := range 42 {
			w.quiet(t, inum, 0, 65536)
			w.quiet(t, inum, 266*1024-5, 65536)
		}
		w.stays(t, was)
	}
}
