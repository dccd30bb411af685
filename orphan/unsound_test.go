package orphan_test

import (
	"math"
	"math/rand"
	"testing"

	"undercroft/api"
	"undercroft/orphan"
	"undercroft/rack"
)

// calm asks that both calls end, that no step is left open, and that All says nothing beside an error.
func (w *world) calm(t testing.TB, inum int) {
	t.Helper()
	if err := orphan.Reclaim(w.l, inum); w.l.Open() {
		t.Fatalf("Reclaim(%d): %d", inum, err)
	}
	if n, err := orphan.All(w.l); w.l.Open() || n != 0 && err != api.OK {
		t.Fatalf("All: %d, %d", n, err)
	}
}

// within asks that nothing was written outside the log, the inodes, the bitmap and the data.
func (w *world) within(t testing.TB) {
	t.Helper()
	ok(t, w.l.Sync())
	for _, op := range w.d.History() {
		if op.Kind == api.OpWrite && (op.At < 1 || op.At >= w.a.where.Geometry.Blocks) {
			t.Fatalf("block %d was written", op.At)
		}
	}
}

// Rule 8: a number that is no data block's, at each place where one can stand, as the last one of an orphan: ErrInval, ahead of any step and of any change.
func TestBadNumbers(t *testing.T) {
	bads := []uint32{1, 5, 32, 33, 34, 35, 110, 111, 112, 1 << 16, 1 << 20, 1<<20 + 40, 1 << 31, 1<<31 + 40, math.MaxUint32}
	for i, x := range []struct {
		indices []int
		spoil   func(a *account, n *api.Node, v uint32)
	}{
		{[]int{0}, func(_ *account, n *api.Node, v uint32) { n.Direct[0] = v }},
		{[]int{0, 3}, func(_ *account, n *api.Node, v uint32) { n.Direct[5] = v }},
		{[]int{0, 3}, func(_ *account, n *api.Node, v uint32) { n.Direct[9] = v }},
		{[]int{0, 3}, func(_ *account, n *api.Node, v uint32) { n.Single = v }},
		{[]int{0, 10}, func(a *account, n *api.Node, v uint32) { a.holds(int(n.Single), 0, v) }},
		{[]int{0, 10}, func(a *account, n *api.Node, v uint32) { a.holds(int(n.Single), 255, v) }},
		{[]int{0, 10}, func(_ *account, n *api.Node, v uint32) { n.Double = v }},
		{[]int{9, 300}, func(a *account, n *api.Node, v uint32) { a.holds(int(n.Double), 1, v) }},
		{[]int{9, 300}, func(a *account, n *api.Node, v uint32) { a.holds(a.below(int(n.Double), 0), 35, v) }},
		{[]int{9, 522}, func(a *account, n *api.Node, v uint32) { a.holds(a.below(int(n.Double), 1), 255, v) }},
	} {
		for _, kind := range []api.Kind{api.KindFile, api.KindDir} {
			begin := made(t, snug(t)).lost(4, kind, x.indices...)
			for _, v := range bads {
				a := begin.copied()
				n := a.node(4)
				x.spoil(a, &n, v)
				a.has(4, n)
				w := newWorld(t, a)
				was := w.still()
				reclaim(t, w.l, 4, api.ErrInval, 0)
				allOf(t, w.l, 0, api.ErrInval, 0)
				w.stays(t, was)
				if t.Failed() {
					t.Fatalf("the number %d, place %d", v, i)
				}
			}
		}
	}
}

// Rule 8: a number that a later step meets: the steps ahead of it are done, and the inode is not made free.
func TestLaterBadNumber(t *testing.T) {
	a := made(t, ten(t)).lost(4, api.KindFile, 0, 20, 40)
	n := a.node(4)
	n.Direct[9] = 400
	a.has(4, n)
	w := newWorld(t, a)
	reclaim(t, w.l, 4, api.ErrInval, 2)
	allOf(t, w.l, 0, api.ErrInval, 0)
	if n, err := rack.Read(w.l, 4); n.Kind != api.KindFile || n.Blocks != 1 || err != api.OK {
		t.Fatalf("the inode is %v, %d", n, err)
	}
	w.within(t)
}

// Rule 8: a block that is mapped and whose bit is 0 can't be given back: the calls end.
func TestFreeAlready(t *testing.T) {
	for _, indices := range [][]int{{0}, {0, 1, 2}, {10}, {300}, {0, 20, 40}} {
		a := made(t, snug(t)).lost(4, api.KindFile, indices...)
		bits := a.now[a.where.BitsAt]
		clear(bits[:])
		a.now[a.where.BitsAt] = bits
		w := newWorld(t, a)
		if err := orphan.Reclaim(w.l, 4); err != api.ErrInval {
			t.Errorf("%v: Reclaim: %d", indices, err)
		}
		w.calm(t, 4)
		w.within(t)
	}
}

// Rule 8: blocks that two orphans have: what the first has given back the second can't.
func TestShared(t *testing.T) {
	a := made(t, snug(t)).lost(4, api.KindFile, 0, 12)
	a.has(5, a.node(4))
	w := newWorld(t, a)
	reclaim(t, w.l, 4, api.OK, 3)
	for range 3 {
		w.calm(t, 5)
	}
	w.within(t)
}

// Orphans of kinds that there are not, and the root without Links, are reclaimed as others are: what is not free and has no Links is an orphan.
func TestUnsoundInodes(t *testing.T) {
	for _, kind := range []api.Kind{3, 255, 256, 65535} {
		for _, do := range []act{reclaiming(4), all()} {
			w := newWorld(t, made(t, ten(t)).lost(4, kind, 0, 97, 300).lost(60, kind))
			w.do(t, do, all())
			w.agree(t)
			w.sound(t)
		}
	}
	for _, do := range []act{reclaiming(1), all()} {
		a := bare(t, ten(t))
		n := a.node(1)
		n.Links = 0
		a.has(1, n)
		w := newWorld(t, a)
		w.do(t, do)
		w.agree(t)
		free(t, w.l, 362, 60)
	}
}

// How many blocks an inode says it has is nothing to what is given back.
func TestWrongBlocks(t *testing.T) {
	for _, blocks := range []uint32{0, 1, 2, 4, 1000, math.MaxUint32} {
		a := made(t, ten(t)).lost(4, api.KindFile, 0, 97)
		n := a.node(4)
		n.Blocks = blocks
		a.has(4, n)
		w := newWorld(t, a)
		was := a.free()
		reclaim(t, w.l, 4, api.OK, 3)
		free(t, w.l, was+3, a.spare()+1)
	}
}

// Rule 8: numbers that are data blocks' are followed, wherever they lead: index blocks that stand below themselves, blocks of several, bits that say otherwise.
func TestAnyNumbers(t *testing.T) {
	for _, marked := range []bool{false, true} {
		a := made(t, snug(t))
		for i := range 256 {
			a.holds(50, i, 50)
			a.holds(60, i, uint32(40+i%60))
		}
		if marked {
			for at := range 110 {
				a.use(at)
			}
		}
		a.has(4, api.Node{Kind: api.KindFile, Size: math.MaxUint32, Direct: [10]uint32{50, 36, 109, 50}, Single: 50, Double: 50})
		a.has(5, api.Node{Kind: api.KindDir, Size: 3000, Direct: [10]uint32{109, 50, 36}, Single: 60, Double: 60})
		a.has(6, api.Node{Kind: api.KindFile, Size: 30000, Direct: [10]uint32{109, 51, 36}, Single: 60, Double: 60})
		a.has(7, api.Node{Kind: api.KindFile, Double: 60})
		for _, first := range []int{4, 5, 6, 7} {
			w := newWorld(t, a)
			for _, inum := range []int{first, 4, 5, 6, 7} {
				w.calm(t, inum)
			}
			w.within(t)
		}
	}
}

// Rule 8: whatever bytes a disk has, every call ends, none panics, and nothing is written where nothing may be.
func TestAnyDisk(t *testing.T) {
	r := rand.New(rand.NewSource(22))
	for range 200 {
		a := made(t, layout(t, 60, 32, 40))
		for at := a.where.NodeAt; at < a.where.Geometry.Blocks; at++ {
			b := a.now[at]
			for i := range b {
				switch r.Intn(6) {
				case 0:
					b[i] = byte(r.Intn(256))
				case 1:
					b[i] = byte(r.Intn(3))
				case 2:
					b[i] = 0
				default: // numbers of data blocks, as they stand in inodes and index blocks
					b[i] = []byte{byte(40 + r.Intn(20)), 0, 0, 0}[i%4]
				}
			}
			a.now[at] = b
		}
		for inum := range 40 { // many of them without Links
			n := a.node(inum)
			n.Links *= uint16(r.Intn(2))
			for i := range n.Direct {
				if r.Intn(3) > 0 {
					n.Direct[i] = uint32(r.Intn(60))
				}
			}
			if r.Intn(2) == 0 {
				n.Single, n.Double = uint32(40+r.Intn(20)), 0
			}
			a.has(inum, n)
		}
		w := newWorld(t, a)
		for inum := -1; inum < 43; inum++ {
			w.calm(t, inum)
		}
		w.within(t)
	}
}
