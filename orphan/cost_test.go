package orphan_test

import (
	"slices"
	"testing"

	"undercroft/api"
	"undercroft/orphan"
)

// P22.2: which blocks Reclaim and All write, on a disk whose bitmap is 37 and whose inodes 4 to 15 stand in 33; the orphan's blocks were taken from 399 down, index blocks ahead of what stands below them.
func TestWhatIsWritten(t *testing.T) {
	for _, x := range []struct {
		name    string
		inum    int
		indices []int
		group   []int
	}{
		{"nothing", 4, nil, []int{33}},
		{"nothing, the last of a block of inodes", 15, nil, []int{33}},
		{"nothing, the first of one", 16, nil, []int{34}},
		{"nothing, the last of all", 60, nil, []int{36}},
		{"a block", 4, []int{0}, []int{37, 33}},
		{"a block, the last inode", 60, []int{0}, []int{37, 36}},
		{"a group", 4, []int{0, 1, 2, 3, 4, 5, 6, 7}, []int{37, 33}},
		{"all direct ones", 4, []int{0, 1, 2, 3, 4, 5, 6, 7, 8, 9}, []int{37, 33}},
		{"below the single index block", 4, []int{10}, []int{37, 33}},
		{"below it, in a group", 4, []int{16, 23}, []int{37, 33}},
		{"below it, in two groups", 4, []int{10, 16}, []int{37, 33, 399}},
		{"below the double one", 4, []int{266}, []int{37, 33}},
		{"below it, in two groups", 4, []int{266, 300}, []int{37, 33, 398}},
		{"below two below it", 4, []int{300, 600}, []int{37, 33, 399}},
		{"below all", 4, []int{0, 10, 300}, []int{37, 33}},
	} {
		for name, do := range map[string]act{"Reclaim": reclaiming(x.inum), "All": all()} {
			t.Run(x.name+": "+name, func(t *testing.T) {
				w := newWorld(t, bare(t, ten(t)).lost(x.inum, api.KindFile, x.indices...))
				w.do(t, do)
				w.wrote(t, x.group...)
				w.agree(t)
				w.sound(t)
			})
		}
	}
}

// P22.2: the last step writes the inode's block alone, in which the inode's place has 64 noughts then, and the other places have what they had.
func TestLastStep(t *testing.T) {
	for _, inum := range []int{4, 15, 16, 31, 32, 59, 60} {
		for _, kind := range []api.Kind{api.KindFile, api.KindDir} {
			a := made(t, ten(t)).lost(inum, kind, 0, 97, 300)
			for other := 4; other <= 60; other++ {
				if other != inum {
					a.has(other, api.Node{Kind: api.KindFile, Links: uint16(other), Size: uint32(other)})
				}
			}
			w := newWorld(t, a)
			w.do(t, trimming(inum), trimming(inum), trimming(inum), syncing())
			at := 33 + inum/16
			before, err := w.l.Read(at)
			ok(t, err)
			n := w.l.Steps()
			w.do(t, reclaiming(inum))
			if w.l.Steps() != n+1 || w.l.Used() != 1 {
				t.Fatalf("inode %d: %d steps, %d blocks", inum, w.l.Steps()-n, w.l.Used())
			}
			want := before
			clear(want[64*(inum%16):][:64])
			if b, err := w.l.Read(at); b != want || want == before || err != api.OK {
				t.Fatalf("inode %d: its block is %v, %d", inum, b, err)
			}
			w.wrote(t, at)
		}
	}
}

// P22.2: the groups go from the last to the first, and the inode behind them: what a commit between two of the steps has left on the disk.
func TestOrderOfGroups(t *testing.T) {
	// Behind its first step the group has 15 blocks of others, the bitmap's and the inode's: another StepTrim has them committed.
	w := newWorld(t, bare(t, ten(t)).lost(4, api.KindFile, 0, 97))
	w.do(t, changed(15), reclaiming(4))
	if w.l.Commits() != 1 {
		t.Fatalf("%d commits", w.l.Commits())
	}
	for _, h := range w.d.Image().Data {
		if n := told(h.Data[64*4:]); h.Index == 33 && n != (api.Node{Kind: api.KindFile, Size: 98304, Blocks: 1, Direct: [10]uint32{399}}) {
			t.Fatalf("behind the first step the inode is %v", n)
		}
	}
	// Three groups of the single index block: what is left in it when it goes says which one was the last.
	w = newWorld(t, bare(t, ten(t)).lost(4, api.KindFile, 16, 24, 32))
	w.do(t, all())
	if b, err := w.l.Read(399); b != (api.Block{4 * 6: 398 - 256, 4*6 + 1: 1}) || err != api.OK {
		t.Fatalf("the single index block is %v, %d", b, err)
	}
}

// P22.3: the orphans go in the order of their numbers: the order in which blocks were changed first, on the disk; and what a commit between two of them has left there.
func TestOrderOfOrphans(t *testing.T) {
	a := bare(t, layout(t, 400, 60, 500))
	var want []int
	for inum := 5; inum <= 500; inum += 16 {
		a.lost(inum, api.KindFile)
		want = append(want, a.where.NodeAt+inum/16)
	}
	w := newWorld(t, a)
	w.do(t, all())
	before := len(w.d.History())
	w.do(t, syncing())
	var wrote []int
	for _, op := range w.d.History()[before:] {
		if op.Kind == api.OpWrite && op.At >= a.where.NodeAt {
			wrote = append(wrote, op.At)
		}
	}
	if !slices.Equal(wrote, want) {
		t.Errorf("the blocks are written as %v, not as %v", wrote, want)
	}

	for _, l := range [][3]int{{3, 5, 3}, {5, 3, 3}, {14, 15, 14}, {2, 9, 2}} {
		w := newWorld(t, bare(t, ten(t)).lost(l[0], api.KindFile).lost(l[1], api.KindDir))
		w.do(t, changed(30), all())
		if w.l.Commits() != 1 {
			t.Fatalf("%d commits", w.l.Commits())
		}
		ok(t, w.d.Crash(nil))
		w.l = newLog(t, w.d, w.a.where)
		left := l[0] + l[1] - l[2]
		reclaim(t, w.l, l[2], api.ErrNoEnt, 0)
		reclaim(t, w.l, left, api.OK, 1)
	}
}

// changed is a step of others that changes some free blocks.
func changed(n int) act {
	return func(t testing.TB, w *world) {
		w.do(t, beginning(31))
		for i := range n {
			w.do(t, changing(w.a.where.DataAt+4+i, mark(7*i)))
		}
		w.do(t, ending())
	}
}

// P10, DOC.md's 'The log': a step's reservation is 15, or 1: with the group that is there one block more has it committed first, and one less does not.
func TestReservations(t *testing.T) {
	for _, x := range []struct {
		r       int
		indices []int
	}{{1, nil}, {15, []int{0}}, {15, []int{300}}} {
		begin := bare(t, ten(t)).lost(4, api.KindFile, x.indices...)
		for name, do := range map[string]act{"Reclaim": reclaiming(4), "All": all()} {
			for ahead := range 32 {
				w := newWorld(t, begin)
				w.do(t, changed(ahead), do)
				if commits := w.l.Commits(); (commits == 1) != (ahead+x.r > 31) {
					t.Fatalf("%s of %v with %d blocks ahead: %d commits", name, x.indices, ahead, commits)
				}
				w.agree(t)
			}
		}
	}
}

// P22.3, P10: All of many orphans costs as many writes and barriers as their steps may cost, at most, in logs of whatever length.
func TestSteps(t *testing.T) {
	for _, log := range []int{32, 33, 40, 54, 100, 256} {
		a := made(t, layout(t, 1500, log, 700))
		trims := 0
		for inum := 4; inum <= 700; inum += 3 {
			indices := borders[inum%15 : inum%15+inum%5]
			if a.free() < 50 {
				indices = nil
			}
			a.lost(inum, api.Kind(1+inum%2), indices...)
			trims += groups(indices)
		}
		frees := len(a.orphans())
		w := newWorld(t, a)
		w.do(t, all())
		if w.l.Steps() != trims+frees || trims < 50 {
			t.Errorf("%d steps, not %d and %d", w.l.Steps(), trims, frees)
		}
		w.do(t, syncing())
		if most := 36*trims + 8*frees; w.d.Made() > most {
			t.Errorf("%d things done, more than %d", w.d.Made(), most)
		}
		w.agree(t)
		w.sound(t)
		w.onDisk(t)
	}
}

// sheets is a disk of a bitmap of 16 blocks: inode 4 is an orphan with some mapped indices, whose blocks and index blocks have their bits in another one of those each.
func sheets(t testing.TB, indices ...int) *account {
	t.Helper()
	a := bare(t, layout(t, 16*8192, 32, 20))
	for at := a.where.DataAt + 1; at < a.where.Geometry.Blocks; at++ {
		if at%8192 == 0 { // whole blocks of the bitmap at once
			var full api.Block
			for i := range full {
				full[i] = 255
			}
			a.now[a.where.BitsAt+at/8192] = full
			at += 8191
			continue
		}
		a.use(at)
	}
	for i := 1; i < 16; i++ { // one is left in each but the first
		at := i*8192 + 4000 + i
		b := a.now[a.where.BitsAt+i]
		b[at%8192/8] &^= 1 << (at % 8)
		a.now[a.where.BitsAt+i] = b
	}
	return a.lost(4, api.KindFile, indices...)
}

// P10: the greatest steps that there are, eight blocks and three index blocks that have their bits in eleven blocks, are no greater than StepTrim.
func TestGreatestStep(t *testing.T) {
	for _, x := range []struct {
		indices    []int
		used, back int
	}{
		{[]int{264, 265, 266, 267, 268, 269, 270, 271}, 12, 11},
		{[]int{520, 521, 522, 523, 524, 525, 526, 527}, 12, 11},
		{[]int{0, 1, 2, 3, 4, 5, 6, 7}, 9, 8},
		{[]int{4, 264, 265, 266, 267, 268, 269, 270, 271}, 13, 12},
	} {
		w := newWorld(t, sheets(t, x.indices...))
		blocks, inodes := w.a.free(), w.a.spare()
		w.do(t, reclaiming(4))
		if w.l.Used() != x.used {
			t.Errorf("%v: %d blocks changed, not %d", x.indices, w.l.Used(), x.used)
		}
		free(t, w.l, blocks+x.back, inodes+1)
		w.agree(t)
		w.do(t, syncing())
		w.onDisk(t)
	}
}

// The steps take no block and no inode: with nothing free they are as with much.
func TestNothingFree(t *testing.T) {
	a := bare(t, snug(t)).lost(4, api.KindFile, 0, 9, 10, 266, 300).lost(9, api.KindDir, 0, 1).lost(10, api.KindFile)
	var others []int
	for at := a.where.DataAt; a.data(at); at++ {
		if !a.bit(at) {
			a.use(at)
			others = append(others, at)
		}
	}
	for inum := 2; inum <= 16; inum++ {
		if a.node(inum).Kind == api.KindFree {
			a.has(inum, api.Node{Kind: api.KindFile, Links: 1})
		}
	}
	w := newWorld(t, a)
	free(t, w.l, 0, 0)
	w.do(t, reclaiming(9))
	w.sound(t, others...)
	w.do(t, all())
	w.sound(t, others...)
	w.agree(t)
	free(t, w.l, 5+3+2, 3)
}

// Behind a call no step is open, and one may be begun, whatever became of the call.
func TestStepIsEnded(t *testing.T) {
	a := made(t, ten(t)).lost(4, api.KindFile, 0, 97).lost(5, api.KindFile).lost(6, api.KindFile, 0, 1, 8, 9).lost(7, api.KindDir, 2)
	n := a.node(6)
	n.Direct[8] = 37 // in the group of 9, which is met first: a step is begun, and is refused
	a.has(6, n)
	l := newWorld(t, a).l
	for _, x := range []struct {
		inum int
		want api.Errno
	}{{2, api.ErrBusy}, {4, api.OK}, {5, api.OK}, {6, api.ErrInval}, {6, api.ErrInval}, {8, api.ErrNoEnt}, {0, api.ErrArg}, {7, api.OK}} {
		if err := orphan.Reclaim(l, x.inum); err != x.want || l.Open() {
			t.Errorf("Reclaim(%d): %d; a step is open: %t", x.inum, err, l.Open())
		}
		ok(t, l.Begin(1), l.End())
	}
	if n, err := orphan.All(l); n != 0 || err != api.ErrInval || l.Open() {
		t.Errorf("All: %d, %d; a step is open: %t", n, err, l.Open())
	}
	ok(t, l.Begin(1))
}
