package trim_test

import (
	"math"
	"math/rand"
	"testing"

	"undercroft/api"
	"undercroft/rack"
	"undercroft/trim"
)

// Rule 8: a number that is no data block's, at each place where one can stand, as the last one of a file: ErrInval where it is met, ahead of any step and of any change; a size behind it does not meet it, and the errors of the arguments are ahead of it.
func TestBadNumbers(t *testing.T) {
	bads := []uint32{1, 5, 32, 33, 34, 35, 110, 111, 112, 1 << 16, 1 << 20, 1<<20 + 40, 1 << 31, 1<<31 + 40, math.MaxUint32}
	for _, x := range []struct {
		indices    []int
		first, end int // the indices that are found by the number
		spoil      func(a *account, n *api.Node, v uint32)
	}{
		{[]int{0}, 0, 1, func(_ *account, n *api.Node, v uint32) { n.Direct[0] = v }},
		{[]int{0, 3}, 5, 6, func(_ *account, n *api.Node, v uint32) { n.Direct[5] = v }},
		{[]int{0, 3}, 9, 10, func(_ *account, n *api.Node, v uint32) { n.Direct[9] = v }},
		{[]int{0, 3}, 10, 266, func(_ *account, n *api.Node, v uint32) { n.Single = v }},
		{[]int{0, 10}, 10, 11, func(a *account, n *api.Node, v uint32) { a.holds(int(n.Single), 0, v) }},
		{[]int{0, 10}, 265, 266, func(a *account, n *api.Node, v uint32) { a.holds(int(n.Single), 255, v) }},
		{[]int{0, 10}, 266, 65802, func(_ *account, n *api.Node, v uint32) { n.Double = v }},
		{[]int{9, 300}, 522, 778, func(a *account, n *api.Node, v uint32) { a.holds(int(n.Double), 1, v) }},
		{[]int{9, 300}, 301, 302, func(a *account, n *api.Node, v uint32) { a.holds(a.below(int(n.Double), 0), 35, v) }},
		{[]int{9, 522}, 777, 778, func(a *account, n *api.Node, v uint32) { a.holds(a.below(int(n.Double), 1), 255, v) }},
	} {
		begin := made(t, snug(t)).own(2, x.indices...).ends(2, api.MaxFile)
		for _, v := range bads {
			a := begin.copied()
			n := a.node(2)
			x.spoil(a, &n, v)
			a.has(2, n)
			w := newWorld(t, a)
			was := w.still()
			for _, index := range []int{0, x.first - 1, x.first, x.end - 1} {
				size := max(0, index*1024)
				refusesAll(t, w.l, 2, size, api.ErrInval)
			}
			refusesAll(t, w.l, 2, -1, api.ErrInval)
			refusesAll(t, w.l, 61, 0, api.ErrArg)
			w.stays(t, was)
			if more, err := trim.Step(w.l, 2, x.end*1024); more || err != api.OK {
				t.Fatalf("the number %d at %d to %d: Step behind it: %t, %d", v, x.first, x.end, more, err)
			}
			ok(t, trim.Cut(w.l, 2, x.end*1024))
			if n, err := rack.Read(w.l, 2); int(n.Size) != min(x.end*1024, api.MaxFile) || err != api.OK {
				t.Fatalf("the number %d at %d to %d: the size is %d, %d", v, x.first, x.end, n.Size, err)
			}
			ok(t, trim.Size(w.l, 2, x.end*1024))
			w.within(t)
		}
	}
}

// Rule 8: the block at the new end of a file has such a number: a Size to less meets it, ahead of any step, one to more does not.
func TestBadEnd(t *testing.T) {
	for _, v := range []uint32{1, 35, 110, 1 << 20, math.MaxUint32} {
		a := made(t, snug(t)).own(2, 0)
		n := a.node(2)
		n.Size, n.Direct[2] = 5000, v
		a.has(2, n)
		w := newWorld(t, a)
		was := w.still()
		for _, size := range []int{2049, 3000, 3071} {
			if err := trim.Size(w.l, 2, size); err != api.ErrInval {
				t.Fatalf("the number %d: Size(%d): %d", v, size, err)
			}
			if err := trim.Cut(w.l, 2, size); err != api.ErrInval {
				t.Fatalf("the number %d: Cut(%d): %d", v, size, err)
			}
		}
		w.stays(t, was)
		ok(t, trim.Size(w.l, 2, 6000), trim.Size(w.l, 2, 6000), trim.Size(w.l, 2, 3072), trim.Size(w.l, 2, 3500))
	}
}

// Rule 8: a number that a later step meets: the steps ahead of it are done, and Step says nothing beside the error.
func TestLaterBadNumber(t *testing.T) {
	a := made(t, snug(t)).own(2, 0, 20, 40)
	n := a.node(2)
	n.Direct[9] = 400
	a.has(2, n)
	w := newWorld(t, a)
	if err := trim.Cut(w.l, 2, 0); err != api.ErrInval || w.l.Open() {
		t.Fatalf("Cut: %d", err)
	}
	w = newWorld(t, a)
	if more, err := trim.Step(w.l, 2, 0); !more || err != api.OK {
		t.Fatalf("Step to 40: %t, %d", more, err)
	}
	if more, err := trim.Step(w.l, 2, 0); more || err != api.ErrInval {
		t.Fatalf("Step to 20: %t, %d", more, err)
	}
	w.within(t)
}

// Rule 8: a block that is mapped and whose bit is 0 is not given back: the call ends, with an error.
func TestFreeAlready(t *testing.T) {
	for _, indices := range [][]int{{0}, {0, 1, 2}, {10}, {300}, {0, 20, 40}} {
		a := made(t, snug(t)).own(2, indices...)
		bits := a.now[a.where.BitsAt]
		clear(bits[:])
		a.now[a.where.BitsAt] = bits
		w := newWorld(t, a)
		if more, err := trim.Step(w.l, 2, 0); more || err != api.ErrInval {
			t.Errorf("%v: Step: %t, %d", indices, more, err)
		}
		if err := trim.Cut(w.l, 2, 0); err != api.ErrInval {
			t.Errorf("%v: Cut: %d", indices, err)
		}
		w.within(t)
	}
}

// Rule 8: sizes that may not be, and kinds: a Step leaves a size that is not more than the one it would come to, and what is no directory is trimmed as a file is.
func TestUnsoundInodes(t *testing.T) {
	for _, kind := range []api.Kind{1, 3, 255, 65535} {
		for _, size := range []uint32{0, 1, 1023, 1024, 1025, 2048, 8191, 8192, 9000, 9216, api.MaxFile, api.MaxFile + 1, 1<<31 - 1, 1 << 31, 1<<31 + 1, math.MaxUint32} {
			a := made(t, snug(t)).own(2, 0, 1, 9)
			n := a.node(2)
			n.Kind, n.Links, n.Size = kind, 65535, size
			a.has(2, n)
			for _, to := range []struct {
				size int
				want uint32
			}{{0, 8192}, {1025, 8192}, {8193, 9216}, {9216, 9216}} {
				w := newWorld(t, a)
				more, err := trim.Step(w.l, 2, to.size)
				if more != (to.size == 0) || err != api.OK {
					t.Fatalf("a size of %d: Step(%d): %t, %d", size, to.size, more, err)
				}
				n, err := rack.Read(w.l, 2)
				if err != api.OK || n.Size != min(size, to.want) || n.Kind != kind || n.Links != 65535 {
					t.Fatalf("a size of %d: behind Step(%d) the inode is %v, %d", size, to.size, n, err)
				}
			}
			w := newWorld(t, a)
			ok(t, trim.Cut(w.l, 2, 500))
			if n, err := rack.Read(w.l, 2); n.Size != min(size, 500) || err != api.OK || (n.Blocks == 3) != (size <= 500) { // what is mapped behind a size is no reason to make a file shorter
				t.Fatalf("a size of %d, cut to 500: %v, %d", size, n, err)
			}
			w = newWorld(t, a)
			ok(t, trim.Size(w.l, 2, api.MaxFile))
			if n, err := rack.Read(w.l, 2); n.Size != api.MaxFile || n.Blocks != 3 || err != api.OK {
				t.Fatalf("a size of %d, made the greatest: %v, %d", size, n, err)
			}
		}
	}
}

// calm asks that the three calls end, that no step is left open that one of them began, and that Step says nothing beside an error.
func (w *world) calm(t testing.TB, inum, size int) {
	for range 2 {
		if more, err := trim.Step(w.l, inum, size); w.l.Open() || more && err != api.OK {
			t.Fatalf("Step(%d, %d): %t, %d", inum, size, more, err)
		}
	}
	if err := trim.Size(w.l, inum, size); w.l.Open() {
		t.Fatalf("Size(%d, %d): %d", inum, size, err)
	}
	if err := trim.Cut(w.l, inum, size); w.l.Open() {
		t.Fatalf("Cut(%d, %d): %d", inum, size, err)
	}
}

// within asks that nothing was written outside the log, the inodes, the bitmap and the data.
func (w *world) within(t testing.TB) {
	t.Helper()
	ok(t, w.l.Sync())
	for _, op := range w.d.History() {
		if op.Kind == api.OpWrite && (op.At < 1 || op.At >= w.a.where.Geometry.Blocks) {
			t.Fatalf("block %d was written", op.At)
		}
	}
}

// Rule 8: numbers that are data blocks' are followed, wherever they lead: index blocks that stand below themselves, blocks of two files, bits that say otherwise.
func TestAnyNumbers(t *testing.T) {
	for _, marked := range []bool{false, true} {
		a := made(t, snug(t))
		for i := range 256 {
			a.holds(50, i, 50)
			a.holds(60, i, uint32(40+i%60))
		}
		if marked {
			for at := range 110 {
				a.use(at)
			}
		}
		a.has(2, api.Node{Kind: api.KindFile, Size: math.MaxUint32, Direct: [10]uint32{50, 36, 109, 50}, Single: 50, Double: 50})
		a.has(3, api.Node{Kind: api.KindDir, Size: 3000, Direct: [10]uint32{109, 50, 36}, Single: 60, Double: 60})
		a.has(4, api.Node{Kind: api.KindFile, Size: 30000, Direct: [10]uint32{109, 51, 36}, Single: 60, Double: 60})
		for _, size := range []int{0, 500, 3 * 1024, 8192, 10 * 1024, 265 * 1024, 266 * 1024, 521 * 1024, 65801 * 1024, api.MaxFile, api.MaxFile + 1} {
			w := newWorld(t, a)
			for _, inum := range []int{4, 3, 2, 1} {
				w.calm(t, inum, size)
				w.calm(t, inum, size/2)
			}
			w.within(t)
		}
	}
}

// Rule 8: whatever bytes a disk has, every call ends, none panics, and nothing is written where nothing may be.
func TestAnyDisk(t *testing.T) {
	r := rand.New(rand.NewSource(16))
	for range 150 {
		a := made(t, layout(t, 60, 32, 40))
		for at := a.where.NodeAt; at < a.where.Geometry.Blocks; at++ {
			b := a.now[at]
			for i := range b {
				switch r.Intn(6) {
				case 0:
					b[i] = byte(r.Intn(256))
				case 1:
					b[i] = byte(r.Intn(3))
				case 2:
					b[i] = 0
				default: // numbers of data blocks, as they stand in inodes and index blocks
					b[i] = []byte{byte(40 + r.Intn(20)), 0, 0, 0}[i%4]
				}
			}
			a.now[at] = b
		}
		w := newWorld(t, a)
		for range 60 {
			size := r.Intn(api.MaxFile)
			if r.Intn(2) == 0 {
				size = r.Intn(300 * 1024)
			}
			w.calm(t, r.Intn(43)-1, size)
		}
		w.within(t)
	}
}
