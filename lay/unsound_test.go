package lay_test

import (
	"math"
	"math/rand"
	"testing"

	"undercroft/api"
	"undercroft/lay"
)

// Rule 8: a number that is no data block's, at each place where one can stand: ErrInval where it is met, ahead of any step and of any change; nothing else is concerned, and the errors of the arguments are ahead of it.
func TestBadNumbers(t *testing.T) {
	bads := []uint32{1, 5, 32, 33, 34, 35, 110, 111, 112, 1 << 16, 1 << 20, 1<<20 + 40, 1 << 31, 1<<31 + 40, math.MaxUint32}
	for _, x := range []struct {
		first, end int // the indices that are found by the number
		spoil      func(a *account, n *api.Node, v uint32)
	}{
		{0, 1, func(_ *account, n *api.Node, v uint32) { n.Direct[0] = v }},
		{5, 6, func(_ *account, n *api.Node, v uint32) { n.Direct[5] = v }},
		{9, 10, func(_ *account, n *api.Node, v uint32) { n.Direct[9] = v }},
		{10, 266, func(_ *account, n *api.Node, v uint32) { n.Single = v }},
		{10, 11, func(a *account, n *api.Node, v uint32) { a.holds(int(n.Single), 0, v) }},
		{265, 266, func(a *account, n *api.Node, v uint32) { a.holds(int(n.Single), 255, v) }},
		{266, 65802, func(_ *account, n *api.Node, v uint32) { n.Double = v }},
		{266, 522, func(a *account, n *api.Node, v uint32) { a.holds(int(n.Double), 0, v) }},
		{522, 778, func(a *account, n *api.Node, v uint32) { a.holds(int(n.Double), 1, v) }},
		{300, 301, func(a *account, n *api.Node, v uint32) { a.holds(a.below(int(n.Double), 0), 34, v) }},
		{777, 778, func(a *account, n *api.Node, v uint32) { a.holds(a.below(int(n.Double), 1), 255, v) }},
	} {
		begin := made(t, snug(t)).own(2, 0, 3, 9, 10, 20, 265, 266, 300, 521, 522)
		for _, v := range bads {
			a := begin.copied()
			n := a.node(2)
			x.spoil(a, &n, v)
			a.has(2, n)
			w := newWorld(t, a)
			was := w.still()
			for _, at := range []int{x.first * 1024, x.first*1024 - 1, x.first*1024 - 700, x.first*1024 + 1000, x.end*1024 - 1} {
				for _, n := range []int{1, 2, 1000, 3000} {
					at = max(0, at)
					if n = min(n, 8192-at%8192, api.MaxFile-at); at+n <= x.first*1024 { // another group, which has no such number
						continue
					}
					if err := lay.Piece(w.l, 2, at, sown(1, n)); err != api.ErrInval {
						t.Fatalf("the number %d at %d to %d: Piece(%d, %d bytes): %d", v, x.first, x.end, at, n, err)
					}
					if n, err := lay.Write(w.l, 2, at, sown(1, n)); n != 0 || err != api.ErrInval {
						t.Fatalf("the number %d at %d to %d: Write(%d): %d, %d", v, x.first, x.end, at, n, err)
					}
				}
			}
			w.stays(t, was)
			w.do(t, beginning(31))
			was = w.still()
			w.do(t, putting(2, x.first*1024, sown(1, 5)), putting(2, max(0, x.first*1024-2000), sown(1, 5000)), putting(2, x.first*1024, nil), putting(2, -1, sown(1, 1)))
			w.stays(t, was)
			w.do(t, ending())
			for _, index := range []int{x.first - 1, x.end} { // beside it all is well
				if index >= 0 && index < 65802 {
					w.do(t, writing(2, index*1024, sown(2, 1024)))
				}
			}
			w.do(t, writing(3, 0, sown(3, 3000)))
			w.agree(t)
		}
	}
}

// Rule 8: a number that is met by a later piece: the pieces ahead of it are written, and the answer has no number beside the error.
func TestLaterBadNumber(t *testing.T) {
	a := made(t, snug(t)).own(2, 0)
	n := a.node(2)
	n.Direct[9] = 400
	a.has(2, n)
	w := newWorld(t, a)
	if n, err := lay.Write(w.l, 2, 0, sown(1, 20000)); n != 0 || err != api.ErrInval || w.l.Open() {
		t.Fatalf("%d, %d", n, err)
	}
}

// Rule 8: sizes and kinds that may not be: a size that is greater than the end of what is written stays.
func TestUnsoundInodes(t *testing.T) {
	for _, size := range []uint32{0, 1, api.MaxFile - 1, api.MaxFile, api.MaxFile + 1, 1<<31 - 1, 1 << 31, 1<<31 + 1, math.MaxUint32} {
		for _, kind := range []api.Kind{0, 1, 2, 3, 255, 65535} {
			a := made(t, snug(t))
			a.has(2, api.Node{Kind: kind, Links: 65535, Size: size, Blocks: math.MaxUint32})
			w := newWorld(t, a)
			ok(t, lay.Piece(w.l, 2, 8190, sown(1, 2)))
			n, err := lay.Write(w.l, 2, api.MaxFile-1000, sown(2, 1000))
			if n != 1000 || err != api.OK {
				t.Fatalf("a size of %d, a kind of %d: %d, %d", size, kind, n, err)
			}
			b, err := w.l.Read(33)
			if x := told(b[128:]); err != api.OK || x.Size != max(size, api.MaxFile) || x.Kind != kind || x.Links != 65535 {
				t.Fatalf("a size of %d, a kind of %d: the inode is %v, %d", size, kind, x, err)
			}
		}
	}
}

// calm asks that the three calls end, that no step is left open that one of them began, and that no number stands beside an error.
func (w *world) calm(t testing.TB, inum, at int, p []byte) {
	err := lay.Piece(w.l, inum, at, p)
	n, e := lay.Write(w.l, inum, at, p)
	if w.l.Open() || n < 0 || n > len(p) || n > 0 && e != api.OK {
		t.Fatalf("inode %d, %d bytes at %d: %d; %d, %d", inum, len(p), at, err, n, e)
	}
	for _, r := range []int{1, 5, 23} {
		ok(t, w.l.Begin(r))
		lay.Put(w.l, inum, at, p)
		if !w.l.Open() {
			t.Fatalf("inode %d, %d bytes at %d: the step was ended", inum, len(p), at)
		}
		ok(t, w.l.End())
	}
}

// within asks that nothing was written outside the log, the inodes, the bitmap and the data.
func (w *world) within(t testing.TB) {
	t.Helper()
	ok(t, w.l.Sync())
	for _, op := range w.d.History() {
		if op.Kind == api.OpWrite && (op.At < 1 || op.At >= w.a.where.Geometry.Blocks) {
			t.Fatalf("block %d was written", op.At)
		}
	}
}

// Rule 8: numbers that are data blocks' are followed, wherever they lead: index blocks that stand below themselves, blocks of two files, bits that say otherwise.
func TestAnyNumbers(t *testing.T) {
	for _, marked := range []bool{false, true} {
		a := made(t, snug(t))
		for i := range 256 {
			a.holds(50, i, 50)
			a.holds(60, i, uint32(40+i%60))
		}
		if marked {
			a.use(50)
			a.use(60)
		}
		a.has(2, api.Node{Kind: api.KindFile, Size: 3000, Direct: [10]uint32{50, 36, 109, 50}, Single: 50, Double: 50})
		a.has(3, api.Node{Kind: api.KindDir, Size: 3000, Direct: [10]uint32{109, 50, 36}, Single: 60, Double: 60})
		for _, at := range []int{0, 500, 3 * 1024, 8192, 10 * 1024, 265 * 1024, 266 * 1024, 521 * 1024, 65801 * 1024} {
			for _, n := range []int{1, 1024, 8192, 30000} {
				w := newWorld(t, a)
				for _, inum := range []int{1, 2, 3} {
					w.calm(t, inum, at, sown(1, n))
					w.calm(t, inum, at, make([]byte, n))
				}
				w.within(t)
			}
		}
	}
}

// Rule 8: whatever bytes a disk has, every call ends, none panics, and nothing is written where nothing may be.
func TestAnyDisk(t *testing.T) {
	r := rand.New(rand.NewSource(15))
	for range 80 {
		a := made(t, layout(t, 60, 32, 40))
		for at := a.where.NodeAt; at < a.where.Geometry.Blocks; at++ {
			b := a.now[at]
			for i := range b {
				switch r.Intn(6) {
				case 0:
					b[i] = byte(r.Intn(256))
				case 1:
					b[i] = byte(r.Intn(3))
				case 2:
					b[i] = 0
				default: // numbers of data blocks, as they stand in inodes and index blocks
					b[i] = []byte{byte(40 + r.Intn(20)), 0, 0, 0}[i%4]
				}
			}
			a.now[at] = b
		}
		w := newWorld(t, a)
		for range 60 {
			at := r.Intn(api.MaxFile)
			if r.Intn(2) == 0 {
				at = r.Intn(300 * 1024)
			}
			w.calm(t, r.Intn(43)-1, at, sown(r.Intn(100), r.Intn(12000)))
		}
		w.within(t)
	}
}
