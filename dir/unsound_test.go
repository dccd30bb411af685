package dir_test

import (
	"math"
	"math/rand"
	"slices"
	"testing"

	"undercroft/api"
	"undercroft/dir"
	"undercroft/rack"
)

// Rule 8: a number that is no data block's, at each place where one can stand: ErrInval where it is met, ahead of any change.
func TestBadNumbers(t *testing.T) {
	bads := []uint32{1, 33, 37, 400, 401, 1<<16 + 50, 1 << 31, math.MaxUint32}
	begin := made(t, ten(t)).lists(4, many(4, 17100)...)
	for _, x := range []struct {
		first, end int // the indices that are found by the number
		spoil      func(a *account, n *api.Node, v uint32)
	}{
		{0, 1, func(_ *account, n *api.Node, v uint32) { n.Direct[0] = v }},
		{5, 6, func(_ *account, n *api.Node, v uint32) { n.Direct[5] = v }},
		{9, 10, func(_ *account, n *api.Node, v uint32) { n.Direct[9] = v }},
		{10, 266, func(_ *account, n *api.Node, v uint32) { n.Single = v }},
		{10, 11, func(a *account, n *api.Node, v uint32) { a.holds(int(n.Single), 0, v) }},
		{265, 266, func(a *account, n *api.Node, v uint32) { a.holds(int(n.Single), 255, v) }},
		{266, 268, func(_ *account, n *api.Node, v uint32) { n.Double = v }},
		{266, 268, func(a *account, n *api.Node, v uint32) { a.holds(int(n.Double), 0, v) }},
		{267, 268, func(a *account, n *api.Node, v uint32) { a.holds(a.below(int(n.Double), 0), 1, v) }},
	} {
		for _, v := range bads {
			a := begin.copied()
			n := a.node(4)
			x.spoil(a, &n, v)
			a.has(4, n)
			w := newWorld(t, a)
			ok(t, w.l.Begin(8))
			was := w.still()
			for _, slot := range []int{x.first * 64, x.first*64 + 5, min(x.end*64, 17101) - 1} {
				if err := dir.Set(w.l, 4, slot, e(9, "new")); err != api.ErrInval {
					t.Fatalf("the number %d at %d to %d: Set(%d): %d", v, x.first, x.end, slot, err)
				}
			}
			if l, err := dir.Slots(w.l, 4); len(l) != 0 || err != api.ErrInval {
				t.Fatalf("the number %d at %d to %d: Slots: %d, %d", v, x.first, x.end, len(l), err)
			}
			if s, n, err := dir.Spot(w.l, 4); s != 0 || n != 0 || err != api.ErrInval {
				t.Fatalf("the number %d at %d to %d: Spot: %d, %d, %d", v, x.first, x.end, s, n, err)
			}
			if s, n, err := dir.Find(w.l, 4, "nobody"); s != 0 || n != 0 || err != api.ErrInval {
				t.Fatalf("the number %d at %d to %d: Find: %d, %d, %d", v, x.first, x.end, s, n, err)
			}
			if is, err := dir.Empty(w.l, 4); is || err != api.ErrInval && x.first == 0 {
				t.Fatalf("the number %d at %d to %d: Empty: %t, %d", v, x.first, x.end, is, err)
			}
			w.stays(t, was)
			ok(t, w.l.End())
			w.within(t)
		}
	}
}

// Rule 8: the block behind the last slot has such a number: what adds a slot meets it, nothing else does.
func TestBadEnd(t *testing.T) {
	for _, v := range []uint32{1, 37, 400, 1 << 20, math.MaxUint32} {
		a := made(t, ten(t)).lists(4, many(4, 64)...)
		n := a.node(4)
		n.Direct[1] = v
		a.has(4, n)
		w := newWorld(t, a)
		w.do(t, beginning(8))
		was := w.still()
		if s, n, err := dir.Spot(w.l, 4); s != 0 || n != 0 || err != api.ErrInval {
			t.Errorf("the number %d: Spot: %d, %d, %d", v, s, n, err)
		}
		if err := dir.Set(w.l, 4, 64, e(9, "new")); err != api.ErrInval {
			t.Errorf("the number %d: Set: %d", v, err)
		}
		w.do(t, listing(4), emptying(4), finding(4, "n63"), finding(4, "nobody"))
		w.stays(t, was)
	}
}

// Rule 8: bytes that are no entry's are not told as one: the calls that meet them end, with an error; a slot of such bytes may be set.
func TestBadEntries(t *testing.T) {
	for _, bad := range [][]byte{
		{2, 0, 'a', 0, 'b'},
		{0, 0, 'a'},
		{5, 0},
		{5, 0, '/'},
		{5, 0, 'a', '/', 'b'},
		{0, 0, 0, 0, 0, 0, 0, 0, 0, 0, 0, 0, 0, 0, 0, 1},
	} {
		for _, slot := range []int{0, 1, 2, 63, 64, 99} {
			a := made(t, ten(t)).lists(4, many(4, 100)...)
			at := a.at(4, slot/64)
			b := a.now[at]
			clear(b[slot%64*16 : slot%64*16+16])
			copy(b[slot%64*16:], bad)
			a.now[at] = b
			w := newWorld(t, a)
			was := w.still()
			if l, err := dir.Slots(w.l, 4); len(l) != 0 || err != api.ErrInval {
				t.Errorf("%v in slot %d: Slots: %s, %d", bad, slot, shown(l...), err)
			}
			if s, n, err := dir.Spot(w.l, 4); s != 0 || n != 0 || err != api.ErrInval {
				t.Errorf("%v in slot %d: Spot: %d, %d, %d", bad, slot, s, n, err)
			}
			if s, n, err := dir.Find(w.l, 4, "nobody"); s != 0 || n != 0 || err != api.ErrInval {
				t.Errorf("%v in slot %d: Find: %d, %d, %d", bad, slot, s, n, err)
			}
			dir.Empty(w.l, 4)
			w.stays(t, was)
			ok(t, w.l.Begin(1), dir.Set(w.l, 4, slot, e(7, "mended")), w.l.End())
			want := many(4, 100)
			want[slot] = e(7, "mended")
			if l, err := dir.Slots(w.l, 4); !slices.Equal(l, want) || err != api.OK {
				t.Errorf("%v in slot %d, mended: %s, %d", bad, slot, shown(l...), err)
			}
		}
	}
}

// calm asks that all calls end, and that nothing stands beside an error.
func (w *world) calm(t testing.TB, inum, slot int) {
	t.Helper()
	if l, err := dir.Slots(w.l, inum); err != api.OK && len(l) != 0 || len(l) > most {
		t.Fatalf("Slots(%d): %d, %d", inum, len(l), err)
	}
	if s, n, err := dir.Spot(w.l, inum); s < 0 || s >= most || n < 0 || n > 3 || err != api.OK && (s != 0 || n != 0) {
		t.Fatalf("Spot(%d): %d, %d, %d", inum, s, n, err)
	}
	for _, name := range []string{".", "a", ""} {
		if s, n, err := dir.Find(w.l, inum, name); s < 0 || s >= most || n < 0 || err != api.OK && (s != 0 || n != 0) {
			t.Fatalf("Find(%d, %q): %d, %d, %d", inum, name, s, n, err)
		}
	}
	if is, err := dir.Empty(w.l, inum); is && err != api.OK {
		t.Fatalf("Empty(%d): %t, %d", inum, is, err)
	}
	ok(t, w.l.Begin(9))
	for _, x := range []api.Entry{e(9, "a"), free, e(0, "x"), e(3, "")} {
		dir.Set(w.l, inum, slot, x)
		dir.Set(w.l, inum, 2, x)
	}
	ok(t, w.l.End())
}

// within asks that nothing was written outside the log, the inodes, the bitmap and the data.
func (w *world) within(t testing.TB) {
	t.Helper()
	ok(t, w.l.Sync())
	for _, op := range w.d.History() {
		if op.Kind == api.OpWrite && (op.At < 1 || op.At >= w.a.where.Geometry.Blocks) {
			t.Fatalf("block %d was written", op.At)
		}
	}
}

// Rule 8: sizes that may not be: no slot is behind the greatest size, and a piece of a slot is none.
func TestUnsoundSizes(t *testing.T) {
	for _, size := range []uint32{1, 15, 17, 31, 33, 40, 47, 49, 1023, 1025, 1039} {
		a := made(t, ten(t)).lists(4, many(4, 66)...)
		n := a.node(4)
		n.Size = size
		a.has(4, n)
		w := newWorld(t, a)
		slots := int(size) / 16
		if l, err := dir.Slots(w.l, 4); !slices.Equal(l, many(4, 66)[:slots]) || err != api.OK {
			t.Errorf("a size of %d: %s, %d", size, shown(l...), err)
		}
		if s, need, err := dir.Spot(w.l, 4); s != slots || need != 0 || err != api.OK {
			t.Errorf("a size of %d: Spot: %d, %d, %d", size, s, need, err)
		}
		w.calm(t, 4, slots)
		w.within(t)
	}
	for _, size := range []uint32{api.MaxFile + 16, math.MaxUint32} {
		a := made(t, ten(t)).lists(4, many(4, 66)...)
		n := a.node(4)
		n.Size = size // what is behind the second block are holes
		a.has(4, n)
		w := newWorld(t, a)
		if l, err := dir.Slots(w.l, 4); len(l) != most || err != api.OK || !slices.Equal(l[:67], append(many(4, 66), free)) {
			t.Errorf("a size of %d: %d slots, %d", size, len(l), err)
		}
		if s, need, err := dir.Spot(w.l, 4); s != 66 || need != 0 || err != api.OK {
			t.Errorf("a size of %d: Spot: %d, %d, %d", size, s, need, err)
		}
		ok(t, w.l.Begin(9))
		for slot, want := range map[int]api.Errno{most: api.ErrBig, most + 1: api.ErrArg, int(size / 16): map[bool]api.Errno{true: api.ErrBig, false: api.ErrArg}[size/16 == most], most - 1: api.OK} {
			if err := dir.Set(w.l, 4, slot, e(9, "a")); err != want {
				t.Errorf("a size of %d: Set(%d): %d, not %d", size, slot, err, want)
			}
		}
		if n, err := rack.Read(w.l, 4); n.Size != size || err != api.OK {
			t.Errorf("a size of %d is %d, %d", size, n.Size, err)
		}
		ok(t, w.l.End())
		w.within(t)
	}
}

// Rule 8: kinds that are none are no directories.
func TestUnsoundKinds(t *testing.T) {
	for _, kind := range []api.Kind{3, 4, 255, 256, 258, 32770, 65535} {
		a := made(t, ten(t)).lists(4, many(4, 66)...)
		n := a.node(4)
		n.Kind = kind
		a.has(4, n)
		w := newWorld(t, a)
		ok(t, w.l.Begin(9))
		was := w.still()
		refusesAll(t, w.l, 4, api.ErrNotDir)
		w.stays(t, was)
	}
}

// Rule 8: numbers that are data blocks' are followed, wherever they lead: index blocks that stand below themselves, blocks of two directories, bits that say otherwise.
func TestAnyNumbers(t *testing.T) {
	for _, marked := range []bool{false, true} {
		a := made(t, snug(t))
		for i := range 256 {
			a.holds(50, i, 50)
			a.holds(60, i, uint32(40+i%60))
		}
		if marked {
			for at := range 110 {
				a.use(at)
			}
		}
		a.has(2, api.Node{Kind: api.KindDir, Size: math.MaxUint32, Direct: [10]uint32{36, 36, 36, 50}, Single: 50, Double: 50})
		a.has(3, api.Node{Kind: api.KindDir, Size: 3000, Direct: [10]uint32{36, 50, 36}, Single: 60, Double: 60})
		a.has(4, api.Node{Kind: api.KindDir, Size: 30000, Direct: [10]uint32{36, 51, 36}, Single: 60, Double: 60})
		for _, slot := range []int{0, 5, 63, 64, 128, 640, 641, 17024, 17025, 40000, most - 1, most} {
			w := newWorld(t, a)
			for _, inum := range []int{4, 3, 2, 1} {
				w.calm(t, inum, slot)
				w.calm(t, inum, slot/2)
			}
			w.within(t)
		}
	}
}

// Rule 8: one block at all indices, of a size that may not be, with no free slot: nothing can be added.
func TestOneBlock(t *testing.T) {
	a := made(t, snug(t)).lists(4, many(4, 64)...)
	one := a.node(4).Direct[0]
	n := api.Node{Kind: api.KindDir, Links: 1, Size: math.MaxUint32, Single: 60, Double: 61}
	for i := range n.Direct {
		n.Direct[i] = one
	}
	for i := range 256 {
		a.holds(60, i, one)
		a.holds(61, i, 60)
	}
	a.has(5, n)
	w := newWorld(t, a)
	if s, need, err := dir.Spot(w.l, 5); s != 0 || need != 0 || err != api.ErrBig {
		t.Errorf("Spot: %d, %d, %d", s, need, err)
	}
	ok(t, w.l.Begin(9))
	if err := dir.Set(w.l, 5, most, e(9, "a")); err != api.ErrBig {
		t.Errorf("Set: %d", err)
	}
}

// Rule 8: whatever bytes a disk has, every call ends, none panics, and nothing is written where nothing may be.
func TestAnyDisk(t *testing.T) {
	r := rand.New(rand.NewSource(19))
	for range 100 {
		a := made(t, layout(t, 60, 32, 40))
		for at := a.where.NodeAt; at < a.where.Geometry.Blocks; at++ {
			b := a.now[at]
			for i := range b {
				switch r.Intn(6) {
				case 0:
					b[i] = byte(r.Intn(256))
				case 1:
					b[i] = byte(r.Intn(3))
				case 2:
					b[i] = 0
				default: // numbers of data blocks, as they stand in inodes and index blocks
					b[i] = []byte{byte(40 + r.Intn(20)), 0, 0, 0}[i%4]
				}
			}
			if at < a.where.BitsAt { // many directories, some of whose bytes are entries
				for i := range 16 {
					put(b[64*i:], uint32(api.KindDir))
				}
			} else if at >= a.where.DataAt && r.Intn(2) == 0 {
				for i := range 64 {
					copy(b[16*i:], sixteen([]api.Entry{free, e(1+r.Intn(40), "a"), e(3, "b")}[r.Intn(3)]))
				}
			}
			a.now[at] = b
		}
		w := newWorld(t, a)
		for range 40 {
			slot := r.Intn(most)
			if r.Intn(2) == 0 {
				slot = r.Intn(300)
			}
			w.calm(t, r.Intn(43)-1, slot)
		}
		w.within(t)
	}
}
