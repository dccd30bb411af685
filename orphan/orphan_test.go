package orphan_test

import (
	"math"
	"math/rand"
	"slices"
	"testing"

	"undercroft/api"
	"undercroft/disk"
	"undercroft/orphan"
	"undercroft/rack"
	"undercroft/room"
	"undercroft/wal"
)

// borders are indices at the ends of what stands in an inode, below the single index block, and below some of those below the double one, and of groups.
var borders = []int{0, 7, 8, 9, 10, 15, 16, 97, 264, 265, 266, 271, 272, 521, 522, 777, 778, 65545, 65546, 65801}

// free asks how many blocks and how many inodes are free.
func free(t testing.TB, l *wal.Log, blocks, inodes int) {
	t.Helper()
	if n, err := room.Free(l); n != blocks || err != api.OK {
		t.Errorf("%d blocks are free, %d, not %d", n, err, blocks)
	}
	if n, err := rack.Spare(l); n != inodes || err != api.OK {
		t.Errorf("%d inodes are free, %d, not %d", n, err, inodes)
	}
}

// reclaim asks whether Reclaim is answered as told, and how many steps it was.
func reclaim(t testing.TB, l *wal.Log, inum int, want api.Errno, steps int) {
	t.Helper()
	before := l.Steps()
	if err := orphan.Reclaim(l, inum); err != want || l.Steps() != before+steps {
		t.Errorf("Reclaim(%d): %d, %d steps, not %d, %d", inum, err, l.Steps()-before, want, steps)
	}
}

// allOf asks whether All is answered as told, and how many steps it was.
func allOf(t testing.TB, l *wal.Log, want int, e api.Errno, steps int) {
	t.Helper()
	before := l.Steps()
	if n, err := orphan.All(l); n != want || err != e || l.Steps() != before+steps {
		t.Errorf("All: %d, %d, %d steps, not %d, %d, %d", n, err, l.Steps()-before, want, e, steps)
	}
}

// refusesAll asks both calls, Reclaim with numbers that would be refused else and with others.
func refusesAll(t testing.TB, l *wal.Log, e api.Errno) {
	t.Helper()
	for _, inum := range []int{1, 2, 3, 4, 5, 16, 60, 0, 61, -1, math.MinInt, math.MaxInt} {
		if err := orphan.Reclaim(l, inum); err != e {
			t.Errorf("Reclaim(%d): %d, not %d", inum, err, e)
		}
	}
	if n, err := orphan.All(l); n != 0 || err != e {
		t.Errorf("All: %d, %d, not %d", n, err, e)
	}
}

// Chapter 22's examples, call by call.
func TestExamples(t *testing.T) {
	l := newWorld(t, bare(t, ten(t)).lost(3, api.KindFile, 0, 97)).l
	free(t, l, 358, 58)
	reclaim(t, l, 3, api.OK, 3)
	free(t, l, 361, 59)

	l = newWorld(t, bare(t, ten(t)).lost(3, api.KindFile)).l
	reclaim(t, l, 3, api.OK, 1)
	free(t, l, 361, 59)

	w := newWorld(t, bare(t, ten(t)).lost(3, api.KindFile, 0))
	was := w.still()
	reclaim(t, w.l, 1, api.ErrBusy, 0)
	reclaim(t, w.l, 2, api.ErrNoEnt, 0)
	reclaim(t, w.l, 0, api.ErrArg, 0)
	w.stays(t, was)

	w = newWorld(t, bare(t, ten(t)))
	was = w.still()
	allOf(t, w.l, 0, api.OK, 0)
	w.stays(t, was)

	l = newWorld(t, bare(t, ten(t)).lost(5, api.KindFile).lost(3, api.KindFile)).l
	allOf(t, l, 2, api.OK, 2)
	free(t, l, 361, 59)
	allOf(t, l, 0, api.OK, 0)

	l = newWorld(t, bare(t, ten(t)).lost(3, api.KindFile)).l
	ok(t, l.Begin(3))
	reclaim(t, l, 3, api.ErrStep, 0)
	allOf(t, l, 0, api.ErrStep, 0)
}

// DOC.md's example 5: what closing the last descriptor does.
func TestWholeExample(t *testing.T) {
	a := bare(t, ten(t))
	for at := 39; at < 42; at++ {
		a.use(at)
	}
	a.now[40] = api.Block{4 * 87: 41}
	a.has(2, api.Node{Kind: api.KindFile, Size: 100001, Blocks: 3, Direct: [10]uint32{39}, Single: 40})
	w := newWorld(t, a)
	free(t, w.l, 358, 58)
	w.do(t, reclaiming(2))
	free(t, w.l, 361, 59)
	w.agree(t)
	w.sound(t)
}

// The example of two orphans, byte by byte: behind it the inodes' block has the root alone, and the bitmap the blocks 0 to 38.
func TestBytes(t *testing.T) {
	l := newWorld(t, bare(t, ten(t)).lost(5, api.KindFile, 0, 97, 300).lost(3, api.KindDir, 0)).l
	allOf(t, l, 2, api.OK, 6)
	nodes := api.Block{64: 2, 66: 2, 68: 32, 72: 1, 76: 38}
	bitmap := api.Block{255, 255, 255, 255, 127}
	for at, want := range map[int]api.Block{33: nodes, 34: {}, 37: bitmap, 38: slots(1, ".", 1, ".."), 399: mark(0), 398: {4 * 87: 0x8d, 4*87 + 1: 1}} {
		if b, err := l.Read(at); b != want || err != api.OK {
			t.Errorf("block %d is %v, %d, not %v", at, b, err, want)
		}
	}
}

// The numbers of the errors.
func TestErrorNumbers(t *testing.T) {
	w := newWorld(t, made(t, ten(t)).lost(4, api.KindFile, 0))
	is := func(name string, err api.Errno, want int) {
		t.Helper()
		if int(err) != want {
			t.Errorf("%s is %d, not %d", name, int(err), want)
		}
	}
	is("ErrNil", orphan.Reclaim(nil, 4), 1)
	is("ErrArg", orphan.Reclaim(w.l, 61), 2)
	is("ErrNoEnt", orphan.Reclaim(w.l, 5), 5)
	is("ErrBusy", orphan.Reclaim(w.l, 2), 10)
	w.do(t, beginning(1))
	is("ErrStep", orphan.Reclaim(w.l, 4), 180)
	w.do(t, ending())
	is("OK", orphan.Reclaim(w.l, 4), 0)
	ok(t, w.d.Crash(nil))
	is("ErrDead", orphan.Reclaim(w.l, 4), 3)
}

// P22.1: logs that are nil or that nobody made, in whichever way.
func TestNoLog(t *testing.T) {
	refusesAll(t, nil, api.ErrNil)
	refusesAll(t, &wal.Log{}, api.ErrNil)
	for _, open := range []bool{false, true} {
		w := newWorld(t, made(t, ten(t)).lost(4, api.KindFile, 0, 10))
		if open {
			w.do(t, beginning(9))
		}
		copied := *w.l
		refusesAll(t, &copied, api.ErrNil)
		w.agree(t)
	}
}

// P22.1: a log that is closed, also where its disk has stopped or is claimed anew.
func TestClosedLog(t *testing.T) {
	for _, then := range []func(d *disk.Disk){
		func(d *disk.Disk) {},
		func(d *disk.Disk) { d.Fuse(0); d.Barrier() },
		func(d *disk.Disk) { d.Claim() },
		func(d *disk.Disk) { d.Crash(nil) },
	} {
		w := newWorld(t, made(t, ten(t)).lost(4, api.KindFile, 0, 10).lost(5, api.KindFile))
		w.do(t, reclaiming(5))
		ok(t, w.l.Close())
		then(w.d)
		refusesAll(t, w.l, api.ErrNil)
	}
}

// P22.1: a log that is dead, with a step open and without: ErrDead is ahead of all others, and nothing is done to the disk.
func TestDeadLog(t *testing.T) {
	bad := made(t, ten(t))
	bad.has(4, api.Node{Kind: api.KindFile, Direct: [10]uint32{1, 2, 3}, Single: 37, Double: 400})
	ways := map[string]func(t *testing.T, w *world){
		"stopped":      func(t *testing.T, w *world) { w.d.Fuse(0); w.d.Barrier() },
		"claimed":      func(t *testing.T, w *world) { w.d.Claim() },
		"another log":  func(t *testing.T, w *world) { newLog(t, w.d, w.a.where) },
		"power":        func(t *testing.T, w *world) { w.d.Crash(nil) },
		"power, again": func(t *testing.T, w *world) { w.d.Crash(nil); newLog(t, w.d, w.a.where) },
		"stopped, power": func(t *testing.T, w *world) {
			w.d.Fuse(0)
			w.d.Write(40, mark(1))
			w.d.Crash([]bool{true})
		},
	}
	for name, die := range ways {
		for _, a := range []*account{made(t, ten(t)), made(t, ten(t)).lost(4, api.KindFile, 3, 10, 266).lost(5, api.KindDir, 0), bad} {
			for _, open := range []bool{false, true} {
				w := newWorld(t, a)
				if open {
					w.do(t, beginning(1), changing(40, mark(1)))
				}
				die(t, w)
				made := w.d.Made()
				refusesAll(t, w.l, api.ErrDead)
				if w.d.Made() != made {
					t.Errorf("%s: %d things were done to the disk", name, w.d.Made()-made)
				}
			}
		}
	}
}

// P22.1: a step is open: that is ahead of all that may be said of the number, and of there being no orphans; the step stays open, and goes on.
func TestOpenStep(t *testing.T) {
	for _, a := range []*account{bare(t, ten(t)), made(t, ten(t)).lost(4, api.KindFile, 3, 10, 266).lost(5, api.KindDir, 0)} {
		for _, r := range []int{1, 15, 31} {
			w := newWorld(t, a)
			w.do(t, beginning(r))
			was := w.still()
			refusesAll(t, w.l, api.ErrStep)
			w.stays(t, was)
			w.do(t, changing(50, mark(5)))
			refusesAll(t, w.l, api.ErrStep)
			w.do(t, ending(), all(), all())
			w.agree(t)
		}
	}
}

// P22.2: numbers that no inode has, however few of their bits are looked at, and whatever stands in the places of the table that are no inode's.
func TestNoInode(t *testing.T) {
	for _, inodes := range []int{1, 2, 15, 16, 60} {
		where := layout(t, 400, 32, inodes)
		a := bare(t, where)
		root := a.node(1)
		for i := range 16 * where.NodeBlocks {
			if i != 1 {
				a.has(i, api.Node{Kind: api.KindFile})
			}
		}
		a.has(1, root)
		w := newWorld(t, a)
		was := w.still()
		none := []int{math.MinInt, math.MinInt + 1, -1 << 31, -65536, -64, -17, -16, -2, -1, 0, inodes + 1, inodes + 2, inodes + 16, 1 << 16, 1<<16 + 1, 1<<16 + 2, math.MaxInt32, math.MaxInt - 1, math.MaxInt}
		for _, n := range []int{1, 2, inodes} {
			if far(n) != n {
				none = append(none, far(n), -far(n))
			}
		}
		for _, inum := range none {
			reclaim(t, w.l, inum, api.ErrArg, 0)
		}
		w.stays(t, was)
		// All leaves what is no inode's, too.
		w.do(t, all(), all())
		w.agree(t)
	}
}

// P22.2: inodes that are free: those without a byte, and those in which something but the Kind was left, Links or none.
func TestFreeInode(t *testing.T) {
	a := made(t, ten(t))
	a.has(4, api.Node{Size: 100, Blocks: 1, Direct: [10]uint32{50}})
	a.has(5, api.Node{Links: 3})
	a.has(6, api.Node{Links: 65535, Size: math.MaxUint32, Blocks: 7, Single: 60, Double: 1})
	w := newWorld(t, a)
	was := w.still()
	for inum := 4; inum <= 60; inum++ {
		reclaim(t, w.l, inum, api.ErrNoEnt, 0)
	}
	allOf(t, w.l, 0, api.OK, 0)
	w.stays(t, was)
}

// P22.2: inodes that have a name, or several: the root, files and directories, with blocks and without, and such as have a number that is none.
func TestNamedInode(t *testing.T) {
	a := made(t, ten(t))
	for i, links := range []uint16{1, 2, 3, 255, 256, 1000, 32768, 65535} {
		a.has(10+i, api.Node{Kind: api.KindFile, Links: links})
		a.has(20+i, api.Node{Kind: api.KindDir, Links: links, Blocks: 1, Direct: [10]uint32{1}})
		a.own(10+i, i, 20+i)
	}
	w := newWorld(t, a)
	was := w.still()
	for _, inum := range []int{1, 2, 3, 10, 11, 12, 13, 14, 15, 16, 17, 20, 21, 22, 23, 24, 25, 26, 27} {
		reclaim(t, w.l, inum, api.ErrBusy, 0)
	}
	allOf(t, w.l, 0, api.OK, 0)
	w.stays(t, was)
}

// groups are how many groups of eight indices a list has something of.
func groups(indices []int) int {
	seen := map[int]bool{}
	for _, index := range indices {
		seen[index/8] = true
	}
	return len(seen)
}

// P22.2, P22.4: orphans of whatever blocks: a step for each group of them, and one; all is free behind it that was theirs, and nothing else has changed.
func TestIndices(t *testing.T) {
	lists := [][]int{nil, {0, 1, 2, 3, 4, 5, 6, 7, 8, 9}, {1, 3, 5, 7, 9}, {10, 11, 12}, {0, 10, 266}, {265, 266}, {266, 522, 778, 65801}, {7, 8}, {15, 16}, {264, 265, 266, 267}, borders}
	for i, index := range borders {
		lists = append(lists, []int{index})
		for _, other := range borders[i+1:] {
			lists = append(lists, []int{index, other})
		}
	}
	begin := made(t, ten(t))
	for _, indices := range lists {
		for _, kind := range []api.Kind{api.KindFile, api.KindDir} {
			a := begin.copied().lost(4, kind, indices...)
			a.lost(60, kind, 4, 20) // another one, which stays
			if int(a.node(4).Blocks) != len(a.owned(4)) {
				t.Fatalf("%v: %d blocks, %v", indices, a.node(4).Blocks, a.owned(4))
			}
			w := newWorld(t, a)
			blocks, inodes := a.free(), a.spare()
			reclaim(t, w.l, 4, api.OK, groups(indices)+1)
			free(t, w.l, blocks+int(a.node(4).Blocks), inodes+1)
			reclaim(t, w.l, 4, api.ErrNoEnt, 0)

			w = newWorld(t, a)
			w.do(t, reclaiming(4), reclaiming(4))
			w.agree(t)
			w.sound(t)
			w.do(t, syncing())
			w.onDisk(t)
		}
	}
}

// P22.2: every set of some telling indices.
func TestSets(t *testing.T) {
	some := []int{0, 9, 10, 15, 265, 266, 271, 521, 522, 65801}
	begin := made(t, layout(t, 120, 32, 16))
	for set := range 1 << len(some) {
		var indices []int
		for i, index := range some {
			if set>>i&1 == 1 {
				indices = append(indices, index)
			}
		}
		w := newWorld(t, begin.copied().lost(16, api.KindFile, indices...))
		w.do(t, reclaiming(16))
		if w.a.steps != groups(indices)+1 {
			t.Fatalf("%v: %d steps", indices, w.a.steps)
		}
		w.agree(t)
		w.sound(t)
	}
}

// P22.2: whatever the size says: it may be more than what is mapped has, or less, or 0; it changes nothing of what is given back.
func TestSizes(t *testing.T) {
	begin := made(t, ten(t))
	for _, indices := range [][]int{nil, {0}, {9}, {0, 97}, {3, 12, 300}, {65801}} {
		for _, size := range []uint32{0, 1, 16, 1023, 1024, 1025, 8192, 100001, api.MaxFile - 1, api.MaxFile, api.MaxFile + 1, 1 << 31, math.MaxUint32} {
			for _, kind := range []api.Kind{api.KindFile, api.KindDir} {
				a := begin.copied().lost(4, kind, indices...)
				n := a.node(4)
				n.Size = size
				a.has(4, n)
				for _, do := range []act{reclaiming(4), all()} {
					w := newWorld(t, a)
					w.do(t, do)
					if w.a.steps != groups(indices)+1 {
						t.Fatalf("%v, a size of %d: %d steps", indices, size, w.a.steps)
					}
					w.agree(t)
					w.sound(t)
				}
			}
		}
	}
}

// P22.3: which inodes are reclaimed: the orphans, wherever they stand in the table, and no others.
func TestWhichOrphans(t *testing.T) {
	for _, inums := range [][]int{{4}, {60}, {15}, {16}, {15, 16}, {4, 5, 6}, {4, 15, 16, 17, 31, 32, 33, 47, 48, 59, 60}, {58, 60}, {20, 40}} {
		a := made(t, ten(t))
		var named []int
		for inum := 4; inum <= 60; inum++ {
			switch {
			case slices.Contains(inums, inum):
				a.lost(inum, api.Kind(1+inum%2), inum%20, inum*2)
			case inum%3 == 0:
				a.has(inum, api.Node{Kind: api.Kind(1 + inum%2), Links: uint16(inum)})
				a.own(inum, inum%5)
				named = append(named, inum)
			}
		}
		w := newWorld(t, a)
		w.do(t, all())
		w.agree(t)
		w.sound(t)
		steps := w.l.Steps()
		w.do(t, all())
		for _, inum := range inums {
			w.do(t, reclaiming(inum))
		}
		for _, inum := range named {
			w.do(t, reclaiming(inum))
		}
		if w.l.Steps() != steps {
			t.Fatalf("%v: %d steps behind All", inums, w.l.Steps()-steps)
		}
		w.do(t, syncing())
		w.onDisk(t)
	}
}

// P22.3: all inodes but the root are orphans.
func TestAllOrphans(t *testing.T) {
	a := bare(t, layout(t, 3000, 40, 900))
	for inum := 2; inum <= 900; inum++ {
		a.lost(inum, api.Kind(1+inum%2))
		if inum%10 == 0 {
			a.own(inum, inum%300)
		}
	}
	w := newWorld(t, a)
	allOf(t, w.l, 899, api.OK, 899+90)
	free(t, w.l, 3000-a.where.DataAt-1, 899)
	w = newWorld(t, a)
	w.do(t, all(), all(), syncing())
	w.agree(t)
	w.sound(t)
	w.onDisk(t)
}

// As many orphans as there may be.
func TestMostOrphans(t *testing.T) {
	const inodes = 65535
	where := layout(t, 33+4096+1+10, 32, inodes)
	a := bare(t, where)
	var full api.Block
	for i := range 16 {
		copy(full[64*i:], laid(api.Node{Kind: api.KindFile, Size: uint32(i)}))
	}
	root := a.node(1)
	for i := range where.NodeBlocks {
		a.now[where.NodeAt+i] = full
	}
	a.has(0, api.Node{})
	a.has(1, root)
	d := load(t, a.image())
	l := newLog(t, d, where)
	allOf(t, l, inodes-1, api.OK, inodes-1)
	free(t, l, 9, inodes-1)
	ok(t, l.Sync())
	a = bare(t, where)
	(&world{d: d, l: l, a: a}).onDisk(t)
}

// An orphan of thousands of blocks.
func TestGreatOrphan(t *testing.T) {
	a := bare(t, layout(t, 9000, 64, 16))
	indices := make([]int, 8000)
	for i := range indices {
		indices[i] = i
	}
	a.lost(9, api.KindFile, indices...)
	if got := int(a.node(9).Blocks); got != 8000+1+1+31 {
		t.Fatalf("it has %d blocks", got)
	}
	blocks := a.free()
	for _, call := range []func(t testing.TB, l *wal.Log){
		func(t testing.TB, l *wal.Log) { reclaim(t, l, 9, api.OK, 1001) },
		func(t testing.TB, l *wal.Log) { allOf(t, l, 1, api.OK, 1001) },
	} {
		l := newWorld(t, a).l
		call(t, l)
		free(t, l, blocks+8033, 15)
	}
}

// What was given back is taken again, the least first.
func TestTakenAgain(t *testing.T) {
	a := made(t, snug(t)).lost(4, api.KindFile, 0, 12, 300).lost(7, api.KindDir, 0)
	was := slices.Sorted(slices.Values(slices.Concat(a.owned(4), a.owned(7))))
	for at := a.where.DataAt; at < a.where.Geometry.Blocks; at++ {
		a.use(at)
	}
	l := newWorld(t, a).l
	allOf(t, l, 2, api.OK, 6)
	ok(t, l.Begin(31))
	for _, want := range was {
		if at, err := room.Take(l); at != want || err != api.OK {
			t.Fatalf("block %d is taken, %d, not %d", at, err, want)
		}
	}
	if at, err := room.Take(l); at != 0 || err != api.ErrNoSpace {
		t.Fatalf("one block more: %d, %d", at, err)
	}
	if inum, err := rack.Take(l, api.Node{Kind: api.KindFile, Links: 1}); inum != 4 || err != api.OK {
		t.Fatalf("inode %d is taken, %d", inum, err)
	}
}

// P22.4: left off between any two steps, and gone on with by All, or by Reclaim of what is left: it comes to the same.
func TestLeftOff(t *testing.T) {
	begin := made(t, ten(t)).lost(4, api.KindFile, 0, 8, 97, 265, 266, 600).lost(6, api.KindDir, 0, 1).lost(7, api.KindFile).lost(40, api.KindFile, 12)
	whole := newWorld(t, begin)
	whole.do(t, all(), syncing())
	total := whole.a.steps
	for n := range total + 1 {
		for _, sync := range []bool{false, true} {
			for _, rest := range []func(w *world){
				func(w *world) { w.do(t, all()) },
				func(w *world) {
					for _, inum := range slices.Backward(w.a.orphans()) {
						w.do(t, reclaiming(inum))
					}
				},
			} {
				w := newWorld(t, begin)
				for range n {
					w.next(t)
				}
				if sync {
					w.do(t, syncing())
				}
				w.agree(t)
				w.sound(t)
				rest(w)
				w.agree(t)
				w.sound(t)
				if w.a.steps != total {
					t.Fatalf("left off behind %d steps: %d steps in all, not %d", n, w.a.steps, total)
				}
				w.do(t, all(), syncing())
				w.onDisk(t)
			}
		}
	}
}

// next does the next step of all that is to be done: by trim's Step, as long as the first orphan has blocks, else by Reclaim.
func (w *world) next(t testing.TB) {
	inum := w.a.orphans()[0]
	if len(w.a.mapped(inum)) > 0 {
		w.do(t, trimming(inum))
	} else {
		w.do(t, reclaiming(inum))
	}
}

// P1: a call depends on what is there, and on nothing else: calls that were refused ahead of it are nothing to it.
func TestSameAgain(t *testing.T) {
	a := made(t, ten(t)).lost(4, api.KindFile, 0, 97).lost(9, api.KindDir, 0)
	first, second := newWorld(t, a), newWorld(t, a)
	second.do(t, reclaiming(2), reclaiming(61))
	for _, w := range []*world{first, second} {
		w.do(t, all(), syncing())
	}
	first.a = second.a
	first.agree(t)
	first.onDisk(t)
}

// Random inodes and calls, held against the account.
func TestRandom(t *testing.T) {
	r := rand.New(rand.NewSource(22))
	for range 300 {
		a := made(t, layout(t, 300, 32+r.Intn(20), 40))
		for inum := 4; inum <= 40; inum++ {
			indices := []int{}
			for range r.Intn(5) {
				if index := r.Intn([]int{10, 40, 300, 800, 65802}[r.Intn(5)]); !slices.Contains(indices, index) {
					indices = append(indices, index)
				}
			}
			if len(indices)*3 > a.free() {
				continue
			}
			switch r.Intn(3) {
			case 0:
				a.lost(inum, api.Kind(1+r.Intn(2)), indices...)
			case 1:
				a.has(inum, api.Node{Kind: api.Kind(1 + r.Intn(2)), Links: uint16(1 + r.Intn(1000))})
				a.own(inum, indices...)
			}
		}
		w := newWorld(t, a)
		for range 20 {
			switch r.Intn(12) {
			case 0:
				w.do(t, all())
			case 1:
				w.do(t, syncing())
			case 2:
				w.do(t, beginning(1+r.Intn(31)), all(), reclaiming(r.Intn(43)-1), ending())
			case 3:
				if len(w.a.orphans()) > 0 {
					w.next(t)
				}
			default:
				w.do(t, reclaiming(r.Intn(43)-1))
			}
		}
		w.agree(t)
		w.sound(t)
		w.do(t, all(), syncing())
		w.agree(t)
		w.sound(t)
		w.onDisk(t)
	}
}

// Whatever sets of inodes and calls a list of bytes stands for.
func FuzzCalls(f *testing.F) {
	for _, seed := range []string{"", "\x04\x05\x00\x09\x0a", "\x14\x22\x31\x01\x02\x03\x80\x81\x84\x90\xff", "aAbBcCdDeE\x80\xff\x90\xfe\xff"} {
		f.Add([]byte(seed))
	}
	f.Fuzz(func(t *testing.T, script []byte) {
		a := made(t, snug(t))
		var calls []byte
		for _, b := range script[:min(len(script), 40)] {
			if b >= 128 {
				calls = append(calls, b)
				continue
			}
			inum, index := 4+int(b%8), borders[int(b/8)%len(borders)]
			if a.free() < 8 || a.at(inum, index) != 0 {
				continue
			}
			if a.node(inum).Kind == api.KindFree {
				a.has(inum, api.Node{Kind: api.Kind(1 + b/8%2), Links: uint16(b / 64)})
			}
			a.own(inum, index)
		}
		w := newWorld(t, a)
		for _, b := range calls {
			switch {
			case b == 255:
				w.do(t, all())
			case b == 254:
				w.do(t, syncing())
			case b == 253:
				w.do(t, beginning(1))
			case b == 252:
				w.do(t, ending())
			default:
				w.do(t, reclaiming(int(b-128)%18))
			}
		}
		w.agree(t)
		if !w.a.open {
			w.do(t, all(), syncing())
			w.agree(t)
			w.sound(t)
			w.onDisk(t)
		}
	})
}
