package trim_test

import (
	"slices"
	"testing"

	"undercroft/api"
	"undercroft/room"
	"undercroft/trim"
)

// P16.2, P16.4: which blocks a call writes, on a disk whose bitmap is 37 and whose inode 2 stands in 33; the file's blocks were taken from 399 down, index blocks ahead of what stands below them.
func TestWhatIsWritten(t *testing.T) {
	for _, x := range []struct {
		name    string
		indices []int
		end     int
		do      act
		group   []int
	}{
		{"Step: a block", []int{0}, 1000, stepping(2, 0), []int{37, 33}},
		{"Step: a group", []int{0, 1, 2, 3, 4, 5, 6, 7}, 8192, stepping(2, 0), []int{37, 33}},
		{"Step: nothing", []int{0}, 1000, stepping(2, 1), nil},
		{"Step: nothing, a hole", []int{0}, 100000, stepping(2, 1024), nil},
		{"Step: an index block stays", []int{10, 16}, 17000, stepping(2, 11*1024), []int{37, 33, 399}},
		{"Step: an index block goes", []int{10, 11}, 12000, stepping(2, 0), []int{37, 33}},
		{"Step: an index block goes, direct ones with it", []int{8, 9, 10, 11}, 12000, stepping(2, 8192), []int{37, 33}},
		{"Step: both index blocks go", []int{266}, 273000, stepping(2, 0), []int{37, 33}},
		{"Step: both stay", []int{266, 300}, 308000, stepping(2, 270*1024), []int{37, 33, 398}},
		{"Step: the lower one goes", []int{266, 530}, 543000, stepping(2, 270*1024), []int{37, 33, 399}},
		{"Step: of two lower ones one goes, one stays", []int{300, 521, 522}, 535000, stepping(2, 0), []int{37, 33, 398, 399}},
		{"Step: a group of single and double", []int{20, 265, 266}, 273000, stepping(2, 0), []int{37, 33, 399}},
		{"Size: to more", []int{0}, 1000, sizing(2, 5000), []int{33}},
		{"Size: to what it is", []int{0}, 1000, sizing(2, 1000), []int{33}},
		{"Size: to what it is, nothing", nil, 0, sizing(2, 0), []int{33}},
		{"Size: to the greatest", []int{0}, 1000, sizing(2, api.MaxFile), []int{33}},
		{"Size: to less, a multiple", []int{0}, 5000, sizing(2, 2048), []int{33}},
		{"Size: to less, a block's end", []int{0}, 5000, sizing(2, 1024), []int{33}},
		{"Size: to less, a hole", []int{0}, 5000, sizing(2, 2000), []int{33}},
		{"Size: to less", []int{0}, 1000, sizing(2, 999), []int{33, 399}},
		{"Size: to less, holes behind it", []int{0, 1}, 5000, sizing(2, 1025), []int{33, 398}},
		{"Size: to less, below an index block", []int{0, 12}, 13000, sizing(2, 12289), []int{33, 397}},
		{"Size: to less, below two", []int{300}, 308000, sizing(2, 307201), []int{33, 397}},
		{"Size: refused", []int{0, 1}, 2000, sizing(2, 1024), nil},
		{"Cut: to what it is", []int{0, 1}, 2000, cutting(2, 2000), nil},
		{"Cut: to more", []int{0, 1}, 2000, cutting(2, 2001), nil},
		{"Cut: a size alone", []int{0, 1}, 2000, cutting(2, 1999), []int{33, 398}},
		{"Cut: a size alone, in holes", []int{0}, 2000000, cutting(2, 1999), []int{33}},
		{"Cut: steps alone", []int{0, 1}, 2000, cutting(2, 1024), []int{37, 33}},
		{"Cut: both", []int{0, 1}, 2000, cutting(2, 1000), []int{37, 33, 399}},
		{"Cut: to nothing", []int{0, 9, 10, 300}, 308000, cutting(2, 0), []int{37, 33}},
		{"Cut: an index block is written, then goes", []int{10, 20}, 21000, cutting(2, 5), []int{37, 33, 399}},
	} {
		t.Run(x.name, func(t *testing.T) {
			w := newWorld(t, made(t, ten(t)).own(2, x.indices...).ends(2, x.end))
			w.do(t, x.do)
			w.wrote(t, x.group...)
			w.agree(t)
			w.sound(t)
		})
	}
}

// P16.4: a Size that changes no byte is a step all the same, and the block behind whose new end noughts stand already is written.
func TestSameBytes(t *testing.T) {
	w := newWorld(t, made(t, ten(t)).own(2, 0, 1).ends(2, 1500))
	for range 2 {
		w.do(t, sizing(2, 1500))
		w.wrote(t, 33)
		w.do(t, sizing(2, 1600))
		w.wrote(t, 33)
		w.do(t, sizing(2, 1500))
		w.wrote(t, 33, 398)
	}
}

// sheets is a disk of a bitmap of 16 blocks: inode 2 has some mapped indices, whose blocks and index blocks have their bits in another one of those each.
func sheets(t testing.TB, indices ...int) *account {
	t.Helper()
	a := made(t, layout(t, 16*8192, 32, 20))
	for at := a.where.DataAt + 1; at < a.where.Geometry.Blocks; at++ {
		if at%8192 == 0 { // whole blocks of the bitmap at once
			var full api.Block
			for i := range full {
				full[i] = 255
			}
			a.now[a.where.BitsAt+at/8192] = full
			at += 8191
			continue
		}
		a.use(at)
	}
	for i := 1; i < 16; i++ { // one is left in each but the first
		at := i*8192 + 4000 + i
		b := a.now[a.where.BitsAt+i]
		b[at%8192/8] &^= 1 << (at % 8)
		a.now[a.where.BitsAt+i] = b
	}
	return a.own(2, indices...)
}

// P10, P16.5: the greatest steps there are: eight blocks and three index blocks, each of which costs its bitmap's block or, where it stays, its own; and the inode's. That is 12, and no more than StepTrim.
func TestGreatestStep(t *testing.T) {
	for _, x := range []struct {
		indices []int
		size    int
		used    int
		given   int
	}{
		{[]int{264, 265, 266, 267, 268, 269, 270, 271}, 0, 12, 11},
		{[]int{520, 521, 522, 523, 524, 525, 526, 527}, 0, 12, 11},
		{[]int{264, 265, 266, 267, 268, 269, 270, 271}, 264 * 1024, 12, 11},
		{[]int{10, 264, 265, 266, 267, 268, 269, 270, 271}, 264 * 1024, 12, 10},
		{[]int{300, 520, 521, 522, 523, 524, 525, 526, 527}, 0, 12, 9}, // the double one stays, and one below it
		{[]int{520, 521, 522, 523, 524, 525, 526, 527}, 522 * 1024, 9, 7},
		{[]int{264, 265, 266, 267, 268, 269, 270, 271}, 265 * 1024, 11, 9},
		{[]int{0, 1, 2, 3, 4, 5, 6, 7}, 0, 9, 8},
		{[]int{0, 1, 2, 3, 4, 5, 6, 7}, 1, 8, 7},
	} {
		w := newWorld(t, sheets(t, x.indices...))
		free := w.a.free()
		w.do(t, stepping(2, x.size))
		if w.l.Used() != x.used || w.l.Used() > api.StepTrim {
			t.Errorf("%v to %d: %d blocks changed, not %d", x.indices, x.size, w.l.Used(), x.used)
		}
		if n, err := room.Free(w.l); n != free+x.given || err != api.OK {
			t.Errorf("%v to %d: %d are free, %d, not %d more than %d", x.indices, x.size, n, err, x.given, free)
		}
		w.agree(t)
		w.do(t, syncing())
		w.onDisk(t)
	}
}

// P16.2 to P16.4: how many steps, and that each commits what was ahead of it as wal's Begin does, by its own reservation; at most 2 r + 6 writes and barriers a step.
func TestSteps(t *testing.T) {
	for _, log := range []int{32, 33, 40, 54, 100, 256} {
		begin := made(t, layout(t, 1000, log, 20))
		var all []int
		for i := range 600 {
			all = append(all, i)
		}
		begin.own(2, all...).ends(2, 600*1024-10).own(3, 7, 8, 100, 265, 266, 500)
		w := newWorld(t, begin)
		for _, x := range []struct {
			inum, size, trims, sizes int
		}{
			{2, 600 * 1024, 0, 0}, {2, 600*1024 - 10, 0, 0}, {2, 600*1024 - 11, 0, 1}, {2, 599*1024 + 1, 0, 1}, {2, 599 * 1024, 1, 0},
			{2, 598*1024 - 1, 1, 1}, {2, 592 * 1024, 1, 0}, {2, 591 * 1024, 1, 0}, {2, 576*1024 + 5, 2, 1}, {2, 576 * 1024, 1, 0},
			{2, 500*1024 + 9, 10, 1}, {2, 264 * 1024, 30, 0}, {2, 5, 33, 1}, {2, 1, 0, 1}, {2, 0, 1, 0}, {2, 0, 0, 0},
			{3, 400000, 1, 1}, {3, 3000, 4, 1}, {3, 2999, 0, 1}, {3, 1024, 0, 1}, {3, 0, 0, 1}, {3, 0, 0, 0},
		} {
			before, made := w.l.Steps(), w.d.Made()
			w.do(t, cutting(x.inum, x.size))
			if got := w.l.Steps() - before; got != x.trims+x.sizes {
				t.Errorf("Cut(%d, %d): %d steps, not %d", x.inum, x.size, got, x.trims+x.sizes)
			}
			w.do(t, syncing())
			if most := 36*x.trims + 10*x.sizes + 36; w.d.Made()-made > most { // what was ahead of it is committed too
				t.Errorf("Cut(%d, %d): %d things done, more than %d", x.inum, x.size, w.d.Made()-made, most)
			}
			w.sound(t)
		}
		w.agree(t)
		w.onDisk(t)
	}
}

// P10: a step's reservation is 15, or 2: with the group that is there, one block more has it committed first, and one less does not.
func TestReservations(t *testing.T) {
	begin := made(t, ten(t)).own(2, 0, 1, 9).ends(2, 9500)
	for _, x := range []struct {
		name string
		r    int
		call act
	}{
		{"Step", 15, stepping(2, 1024)},
		{"Cut", 15, cutting(2, 9216)},
		{"Size", 2, sizing(2, 9400)},
		{"Cut by Size", 2, cutting(2, 9400)},
	} {
		for ahead := range 31 {
			w := newWorld(t, begin)
			w.do(t, beginning(31))
			for i := range ahead {
				w.do(t, changing(100+i, mark(i)))
			}
			w.do(t, ending(), x.call)
			if commits := w.l.Commits(); (commits == 1) != (ahead+x.r > 31) {
				t.Fatalf("%s with %d blocks ahead: %d commits", x.name, ahead, commits)
			}
			w.agree(t)
		}
	}
}

// P16.5: a step of these takes no block, and needs none: with nothing free they are as with much.
func TestNothingFree(t *testing.T) {
	begin := made(t, snug(t)).own(2, 0, 9, 10, 266, 300)
	var others []int
	for at := begin.where.DataAt; begin.data(at); at++ {
		if !begin.bit(at) {
			begin.use(at)
			others = append(others, at)
		}
	}
	w := newWorld(t, begin)
	for _, do := range []act{sizing(2, 400000), sizing(2, 308000), stepping(2, 0), cutting(2, 100), sizing(2, 99), sizing(2, api.MaxFile), sizing(3, 500), cutting(3, 1), cutting(2, 0)} {
		free := w.a.free()
		w.do(t, do)
		if w.a.free() < free {
			t.Fatalf("a block was taken")
		}
		w.agree(t)
		w.sound(t, others...)
	}
	if n, err := room.Free(w.l); n != 8 || err != api.OK {
		t.Errorf("%d are free, %d", n, err)
	}
}

// What was given back is taken again, the least ahead of the others, and nothing of it is left in what it becomes.
func TestTakenAgain(t *testing.T) {
	w := newWorld(t, made(t, snug(t)))
	w.do(t, writing(2, 0, sown(1, 12*1024)))
	was := w.a.owned(2)
	slices.Sort(was)
	w.do(t, cutting(2, 0), writing(3, 0, sown(2, 3)), writing(3, 5000, sown(3, 3)), writing(3, 20*1024, sown(4, 3)))
	now := w.a.owned(3)
	slices.Sort(now)
	if !slices.Equal(now, was[:4]) {
		t.Errorf("%v were given back, %v taken", was, now)
	}
	w.do(t, sizing(3, 21*1024))
	w.whole(t, 3)
	w.sound(t)
}

// A step that is begun is over behind the call, and one more may be begun, whatever became of the call.
func TestStepIsEnded(t *testing.T) {
	a := made(t, ten(t)).own(2, 0, 1, 9).own(3, 0, 1, 8, 9)
	n := a.node(3)
	n.Direct[8] = 37 // in the group of 9, which is met first
	a.has(3, n)
	w := newWorld(t, a)
	for i, call := range []func(){
		func() { trim.Step(w.l, 2, 9*1024) },
		func() { trim.Step(w.l, 2, 9*1024) },
		func() { trim.Size(w.l, 2, 9000) },
		func() { trim.Size(w.l, 2, 1000) },
		func() { trim.Cut(w.l, 2, 9000) },
		func() { trim.Cut(w.l, 2, 900) },
		func() { trim.Step(w.l, 3, 0) },
		func() { trim.Cut(w.l, 3, 0) },
		func() { trim.Size(w.l, 3, 0) },
		func() { trim.Step(w.l, 4, 0) },
	} {
		call()
		if w.l.Open() {
			t.Fatalf("call %d: a step is open", i)
		}
		ok(t, w.l.Begin(1), w.l.End())
	}
}
