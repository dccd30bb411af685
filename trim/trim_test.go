package trim_test

import (
	"maps"
	"math"
	"math/rand"
	"slices"
	"testing"

	"undercroft/api"
	"undercroft/chart"
	"undercroft/lay"
	"undercroft/rack"
	"undercroft/room"
	"undercroft/trim"
	"undercroft/wal"
)

// borders are the indices at which something new begins: a block, a group of eight, what stands below the single index block, below the double one, and below those below it.
var borders = []int{0, 1, 7, 8, 9, 10, 11, 15, 16, 263, 264, 265, 266, 267, 272, 521, 522, 523, 528, 778, 65545, 65546, 65800, 65801, 65802}

// long is the file of the chapter's examples, inode 2: Size 100001, the indices 0 (block 399) and 97 (block 397; the single index block is 398).
func long(t testing.TB) *account {
	t.Helper()
	return made(t, ten(t)).own(2, 0, 97).ends(2, 100001)
}

// is asks for a file's size, how many blocks it has, which indices are mapped, and how many blocks are free.
func is(t testing.TB, l *wal.Log, inum, size, blocks, free int, mapped ...int) {
	t.Helper()
	n, err := rack.Read(l, inum)
	if int(n.Size) != size || int(n.Blocks) != blocks || err != api.OK {
		t.Errorf("the inode is %v, %d, not of size %d, of %d blocks", n, err, size, blocks)
	}
	if n, err := room.Free(l); n != free || err != api.OK {
		t.Errorf("%d are free, %d, not %d", n, err, free)
	}
	var found []int
	for index := range chart.All(l, inum) {
		found = append(found, index)
	}
	if !slices.Equal(found, mapped) {
		t.Errorf("%v are mapped, not %v", found, mapped)
	}
}

// steps asks whether a call is answered as told, and how many steps it was.
func steps(t testing.TB, w *world, name string, want api.Errno, n int, call func() api.Errno) {
	t.Helper()
	before := w.l.Steps()
	if err := call(); err != want || w.l.Steps() != before+n {
		t.Errorf("%s: %d, %d steps, not %d, %d", name, err, w.l.Steps()-before, want, n)
	}
}

// steppedOnce is a call of Step that must answer whether there is more.
func steppedOnce(t testing.TB, w *world, inum, size int, more bool) func() api.Errno {
	return func() api.Errno {
		t.Helper()
		got, err := trim.Step(w.l, inum, size)
		if got != more {
			t.Errorf("Step(%d, %d): more: %t", inum, size, got)
		}
		return err
	}
}

// Chapter 16's examples, call by call.
func TestExamples(t *testing.T) {
	w := newWorld(t, long(t))
	is(t, w.l, 2, 100001, 3, 358, 0, 97)
	steps(t, w, "Step", api.OK, 1, steppedOnce(t, w, 2, 3, false))
	is(t, w.l, 2, 98304, 1, 360, 0)
	for _, at := range []int{397, 398} {
		if used, err := room.Used(w.l, at); used || err != api.OK {
			t.Errorf("block %d is used: %t, %d", at, used, err)
		}
	}
	steps(t, w, "Step again", api.OK, 0, steppedOnce(t, w, 2, 3, false))
	is(t, w.l, 2, 98304, 1, 360, 0)
	steps(t, w, "Size", api.OK, 1, func() api.Errno { return trim.Size(w.l, 2, 3) })
	is(t, w.l, 2, 3, 1, 360, 0)
	b, err := w.l.Read(399)
	if want := mark(0); err != api.OK || b != api.Block(append(want[:3:3], make([]byte, 1021)...)) {
		t.Errorf("the bytes from 3 on are no noughts, %d", err)
	}

	both := newWorld(t, long(t))
	steps(t, both, "Cut", api.OK, 2, func() api.Errno { return trim.Cut(both.l, 2, 3) })
	if !maps.Equal(both.still().blocks, w.still().blocks) {
		t.Errorf("Cut has come to something else than its steps")
	}

	w = newWorld(t, long(t))
	was := w.still()
	steps(t, w, "Cut to more", api.OK, 0, func() api.Errno { return trim.Cut(w.l, 2, 200000) })
	w.stays(t, was)
	steps(t, w, "Size to more", api.OK, 1, func() api.Errno { return trim.Size(w.l, 2, 200000) })
	is(t, w.l, 2, 200000, 3, 358, 0, 97)
	was = w.still()
	steps(t, w, "Size to less", api.ErrInval, 0, func() api.Errno { return trim.Size(w.l, 2, 1000) })
	w.stays(t, was)

	w = newWorld(t, long(t))
	was = w.still()
	refusesAll(t, w.l, 1, 0, api.ErrIsDir)
	refusesAll(t, w.l, 0, 0, api.ErrArg)
	refusesAll(t, w.l, 2, -1, api.ErrInval)
	refusesAll(t, w.l, 4, 0, api.ErrNoEnt)
	w.stays(t, was)
	ok(t, w.l.Begin(3))
	refusesAll(t, w.l, 2, 0, api.ErrStep)
}

// DOC.md's example 4, and the blocks of example 5.
func TestWholeExamples(t *testing.T) {
	w := newWorld(t, made(t, ten(t)))
	w.do(t, writing(2, 0, []byte("abc")), writing(2, 100000, []byte{5}))
	is(t, w.l, 2, 100001, 3, 358, 0, 97)
	steps(t, w, "Cut", api.OK, 2, func() api.Errno { return trim.Cut(w.l, 2, 3) })
	is(t, w.l, 2, 3, 1, 360, 0)
	w.reads(t, 2, 0, []byte("abc"))
	steps(t, w, "Cut to nothing", api.OK, 1, func() api.Errno { return trim.Cut(w.l, 2, 0) })
	is(t, w.l, 2, 0, 0, 361)
}

// refusesAll asks whether all three calls are an error.
func refusesAll(t testing.TB, l *wal.Log, inum, size int, e api.Errno) {
	t.Helper()
	if more, err := trim.Step(l, inum, size); more || err != e {
		t.Fatalf("Step(%d, %d): %t, %d, not %d", inum, size, more, err, e)
	}
	if err := trim.Cut(l, inum, size); err != e {
		t.Fatalf("Cut(%d, %d): %d, not %d", inum, size, err, e)
	}
	if err := trim.Size(l, inum, size); err != e {
		t.Fatalf("Size(%d, %d): %d, not %d", inum, size, err, e)
	}
}

// kinds is a disk with inodes of all kinds: 4 is a directory of three blocks, 5 an orphan of two, 6 a directory that is one, of eleven blocks and an index block, 7 an orphan directory without blocks; 60, the last one, is a file. 8 to 59 are free.
func kinds(t testing.TB) *account {
	t.Helper()
	a := made(t, ten(t))
	a.has(4, api.Node{Kind: api.KindDir, Links: 2})
	a.has(5, api.Node{Kind: api.KindFile})
	a.has(6, api.Node{Kind: api.KindDir})
	a.has(7, api.Node{Kind: api.KindDir})
	a.has(60, api.Node{Kind: api.KindFile, Links: 1})
	a.own(2, 0, 3, 9, 12, 97, 266, 530).own(4, 0, 1, 2).own(5, 0, 20).own(6, 0, 1, 2, 3, 4, 5, 6, 7, 8, 9, 10).own(60, 1)
	return a.ends(2, 600000).ends(5, 21000).ends(60, 3000)
}

// The numbers of the errors.
func TestErrorNumbers(t *testing.T) {
	is := func(err api.Errno, want int) {
		t.Helper()
		if int(err) != want {
			t.Errorf("%d, not %d", int(err), want)
		}
	}
	w := newWorld(t, kinds(t))
	is(trim.Size(nil, 2, 0), 1)
	is(trim.Size(w.l, 0, 0), 2)
	is(trim.Size(w.l, 2, -1), 4)
	is(trim.Size(w.l, 8, 0), 5)
	is(trim.Size(w.l, 4, 0), 8)
	is(trim.Size(w.l, 2, api.MaxFile+1), 17)
	ok(t, w.l.Begin(1))
	is(trim.Size(w.l, 2, 0), 180)
	w.d.Crash(nil)
	is(trim.Size(w.l, 2, 0), 3)
}

// The arguments that are asked with each other: numbers of inodes, and sizes.
func someInums() []int {
	return []int{1, 2, 3, 4, 5, 6, 7, 8, 59, 60, 61, 62, 64, 0, -1, -2, -60, math.MinInt, math.MinInt + 1, 1 << 16, 1<<16 + 2, far(2), far(-2), math.MaxInt - 1, math.MaxInt}
}

func someSizes() []int {
	shift := 40
	return []int{0, 1, 5, 6, 1023, 1024, 1025, 8192, 100000, 530 * 1024, 530*1024 + 1, 531 * 1024, 599999, 600000, 600001, -1, -2, -1024, math.MinInt, math.MinInt + 1, api.MaxFile - 1, api.MaxFile, api.MaxFile + 1, api.MaxFile + 1024, 1 << 30, 1 << shift, math.MaxInt32, far(0), far(1), far(-1), math.MaxInt - 1023, math.MaxInt - 1, math.MaxInt}
}

// each asks with all arguments.
func each(do func(inum, size int)) {
	for _, inum := range someInums() {
		for _, size := range someSizes() {
			do(inum, size)
		}
	}
}

// P16.1 to P16.4: all arguments with each other, of one call each on a disk of its own, in a step and outside.
func TestArguments(t *testing.T) {
	begin := kinds(t)
	for _, open := range []bool{false, true} {
		for _, call := range []func(inum, size int) act{stepping, cutting, sizing} {
			w := newWorld(t, begin)
			each(func(inum, size int) {
				w.do(t, syncing())
				if open {
					w.do(t, beginning(20))
				}
				steps := w.l.Steps()
				w.do(t, call(inum, size))
				changed := w.l.Steps() != steps
				if open {
					w.do(t, ending())
				}
				if changed { // begun anew, so that what is asked next finds the same disk
					w.agree(t)
					w.sound(t)
					w = newWorld(t, begin)
				}
			})
			w.agree(t)
		}
	}
}

// P16.1, rule 2: what is refused changes nothing at all, and what has nothing to do neither.
func TestUntouched(t *testing.T) {
	for _, open := range []bool{false, true} {
		w := newWorld(t, kinds(t))
		w.do(t, writing(3, 0, sown(1, 3000)), sizing(60, 2500))
		if open {
			w.do(t, beginning(5))
		}
		was := w.still()
		each(func(inum, size int) {
			refused := w.a.refuses(inum, size) != api.OK
			dir := !refused && w.a.node(inum).Kind == api.KindDir
			if refused || dir && inum != 6 || !dir && len(w.a.behind(inum, size)) == 0 {
				trim.Step(w.l, inum, size)
			}
			if refused || dir || int(w.a.node(inum).Size) <= size {
				trim.Cut(w.l, inum, size)
			}
			if refused || dir || size > api.MaxFile || len(w.a.behind(inum, size)) > 0 {
				trim.Size(w.l, inum, size)
			}
		})
		w.stays(t, was)
	}
}

// P16.1 to P16.4: the order of the errors: each call, where several would apply; those that stand further down are left out one by one.
func TestOrderOfErrors(t *testing.T) {
	w := newWorld(t, kinds(t))
	ok(t, w.l.Begin(1))
	refusesAll(t, nil, 0, -1, api.ErrNil)
	for _, inum := range []int{0, 8, 1, 2} {
		for _, size := range []int{-1, 0, api.MaxFile + 1} {
			refusesAll(t, w.l, inum, size, api.ErrStep)
		}
	}
	ok(t, w.l.End())
	was := w.still()
	for _, size := range []int{-1, 0, 5, api.MaxFile + 1} {
		refusesAll(t, w.l, 0, size, api.ErrArg)
		refusesAll(t, w.l, 61, size, api.ErrArg)
	}
	for _, inum := range []int{1, 2, 3, 4, 5, 6, 7, 8, 60} {
		refusesAll(t, w.l, inum, -1, api.ErrInval)
		refusesAll(t, w.l, inum, math.MinInt, api.ErrInval)
	}
	for _, size := range []int{0, 5, api.MaxFile, api.MaxFile + 1, math.MaxInt} {
		refusesAll(t, w.l, 8, size, api.ErrNoEnt)
		refusesAll(t, w.l, 59, size, api.ErrNoEnt)
		refusesAll(t, w.l, 1, size, api.ErrIsDir)
		refusesAll(t, w.l, 4, size, api.ErrIsDir)
		for _, inum := range []int{6, 7} { // orphans: Step alone takes them
			if err := trim.Cut(w.l, inum, size); err != api.ErrIsDir {
				t.Errorf("Cut(%d, %d): %d", inum, size, err)
			}
			if err := trim.Size(w.l, inum, size); err != api.ErrIsDir {
				t.Errorf("Size(%d, %d): %d", inum, size, err)
			}
		}
	}
	for _, size := range []int{api.MaxFile + 1, math.MaxInt} {
		if err := trim.Size(w.l, 2, size); err != api.ErrBig {
			t.Errorf("Size(2, %d): %d", size, err)
		}
		if more, err := trim.Step(w.l, 2, size); more || err != api.OK { // greater than any bound
			t.Errorf("Step(2, %d): %t, %d", size, more, err)
		}
		if err := trim.Cut(w.l, 2, size); err != api.OK {
			t.Errorf("Cut(2, %d): %d", size, err)
		}
	}
	if err := trim.Size(w.l, 2, 530*1024); err != api.ErrInval {
		t.Errorf("Size with a block behind it: %d", err)
	}
	w.stays(t, was)
	ok(t, trim.Size(w.l, 2, api.MaxFile), trim.Size(w.l, 2, 530*1024+1))
	w.d.Crash(nil)
	refusesAll(t, w.l, 0, -1, api.ErrDead)
}

// P16.1, rule 4: logs that are nil or that nobody made, whatever the arguments.
func TestNoLog(t *testing.T) {
	for _, open := range []bool{false, true} {
		w := newWorld(t, kinds(t))
		if open {
			w.do(t, beginning(15))
		}
		copied := *w.l
		was := w.still()
		for _, l := range []*wal.Log{nil, {}, &copied} {
			each(func(inum, size int) { refusesAll(t, l, inum, size, api.ErrNil) })
		}
		w.stays(t, was)
	}
}

// P16.1, rule 4: a log that is closed is as one that nobody made, also where its disk has stopped or is claimed anew.
func TestClosedLog(t *testing.T) {
	for _, then := range []func(w *world){
		func(w *world) {},
		func(w *world) { w.d.Fuse(0); w.d.Barrier() },
		func(w *world) { w.d.Claim() },
		func(w *world) { w.d.Crash(nil) },
	} {
		w := newWorld(t, kinds(t))
		w.do(t, cutting(2, 5000))
		ok(t, w.l.Close())
		then(w)
		made := w.d.Made()
		each(func(inum, size int) { refusesAll(t, w.l, inum, size, api.ErrNil) })
		if w.d.Made() != made {
			t.Errorf("%d things were done to the disk", w.d.Made()-made)
		}
	}
}

// P16.1, rule 7: a log whose disk has stopped or whose claim is over, whatever the arguments, also where no block would be touched; with a step open and without.
func TestDeadLog(t *testing.T) {
	for name, die := range map[string]func(w *world){
		"stopped by a barrier": func(w *world) { w.d.Fuse(0); w.d.Barrier() },
		"stopped by a write":   func(w *world) { w.d.Fuse(0); w.d.Write(40, api.Block{}) },
		"claimed":              func(w *world) { w.d.Claim() },
		"another log":          func(w *world) { newLog(t, w.d, w.a.where) },
		"power":                func(w *world) { w.d.Crash(nil) },
		"power, another log":   func(w *world) { w.d.Crash(nil); newLog(t, w.d, w.a.where) },
	} {
		for _, open := range []bool{false, true} {
			w := newWorld(t, kinds(t))
			w.do(t, cutting(2, 5000))
			if open {
				w.do(t, beginning(3))
			}
			die(w)
			made := w.d.Made()
			each(func(inum, size int) { refusesAll(t, w.l, inum, size, api.ErrDead) })
			if w.d.Made() != made {
				t.Errorf("%s: %d things were done to the disk", name, w.d.Made()-made)
			}
		}
	}
}

// P16.1: the first and the last inode of each block of the region, and the numbers beside the greatest.
func TestInodes(t *testing.T) {
	for _, inodes := range []int{3, 14, 15, 16, 17, 31, 32, 60, 65535} {
		a := made(t, layout(t, 5000, 32, inodes))
		inums := []int{2, 3, 14, 15, 16, 17, 31, 32, 33, 255, 256, 257, 32768, inodes - 1, inodes, inodes + 1}
		slices.Sort(inums)
		inums = slices.Compact(inums)
		for _, inum := range inums {
			if a.there(inum) {
				a.has(inum, api.Node{Kind: api.KindFile, Links: 1})
				a.own(inum, 0, 1, 9).ends(inum, 10000)
			}
		}
		w := newWorld(t, a)
		for _, inum := range append(inums, -1, 0, 1<<16, 1<<16+1, far(1), math.MinInt) {
			w.do(t, sizing(inum, 9999), stepping(inum, 3000), cutting(inum, 900))
		}
		w.agree(t)
	}
}

// files are files of many kinds, by the indices that are mapped: none, all about the borders, whole groups that are holes, blocks in each kind of index block alone.
func files() map[string][]int {
	list := func(first, end int) []int {
		var l []int
		for i := first; i < end; i++ {
			l = append(l, i)
		}
		return l
	}
	return map[string][]int{
		"a hole":                           nil,
		"one block":                        {0},
		"a group":                          list(0, 8),
		"three groups":                     list(0, 24),
		"the direct ones":                  list(0, 10),
		"the direct ones and one more":     list(0, 11),
		"every third one":                  {0, 3, 6, 9, 12, 15, 18, 21, 24},
		"whole groups that are holes":      {1, 7, 40, 41, 47, 120},
		"behind the first group":           {8, 15, 30},
		"the single one alone":             {10},
		"ends of the single one":           {10, 265},
		"about the double one":             list(260, 275),
		"the double one alone":             {266},
		"two below the double one":         {266, 521, 522, 777},
		"about two below the double one":   list(518, 530),
		"a group of both, holes within":    {264, 267, 271},
		"two of three below it, and holes": {300, 600, 1100},
		"the last ones":                    {0, 65800, 65801},
		"the last two groups":              {9, 10, 65543, 65546, 65792, 65799, 65801},
	}
}

// about are sizes about the borders and about the mapped indices, none twice; a file has none above most.
func about(indices []int, most int) []int {
	var l []int
	for _, index := range slices.Concat(borders, indices) {
		for _, more := range []int{-1024, -1, 0, 1, 500, 1023, 1025} {
			if size := index*1024 + more; size >= 0 && size <= most {
				l = append(l, size)
			}
		}
	}
	slices.Sort(l)
	return slices.Compact(l)
}

// fileOf is a disk with a file: its size ends within its last block, or, if there is room, in a hole some blocks behind it.
func fileOf(t testing.TB, indices []int, further bool) *account {
	t.Helper()
	a := made(t, snug(t)).own(2, indices...).own(3, 0, 2, 12)
	size := int(a.node(2).Size)
	if further {
		return a.ends(2, min(api.MaxFile, size+20*1024+77))
	}
	return a.ends(2, max(0, size-300))
}

// P16.2: Step of each file to each size, again and again till it has nothing to do: what it answers, the Size that it leaves, what is given back and what stays.
func TestStep(t *testing.T) {
	for name, indices := range files() {
		for _, further := range []bool{false, true} {
			begin := fileOf(t, indices, further)
			for _, size := range about(indices, api.MaxFile) {
				w := newWorld(t, begin)
				for again := true; again; {
					steps, free := w.l.Steps(), w.a.free()
					w.do(t, stepping(2, size))
					again = w.l.Steps() != steps
					if behind := w.a.behind(2, size); !again && len(behind) > 0 {
						t.Fatalf("%s, %d: a Step did nothing with %v behind it", name, size, behind)
					}
					if again == (w.a.free() == free) {
						t.Fatalf("%s, %d: a step: %t, but %d are free, %d ahead of it", name, size, again, w.a.free(), free)
					}
				}
				w.agree(t)
				w.sound(t)
			}
		}
	}
}

// P16.3: Cut of each file to each size: the Size, the bytes ahead of it as they were, noughts behind it.
func TestCut(t *testing.T) {
	for name, indices := range files() {
		for _, further := range []bool{false, true} {
			begin := fileOf(t, indices, further)
			was := int(begin.node(2).Size)
			for _, size := range about(indices, api.MaxFile) {
				w := newWorld(t, begin)
				w.do(t, cutting(2, size))
				if got := int(w.a.node(2).Size); got != min(was, size) {
					t.Fatalf("%s: cut to %d it has %d bytes", name, size, got)
				}
				w.agree(t)
				w.sound(t)
				from := max(0, min(was, size)-5000)
				w.reads(t, 2, from, begin.read(2, from, min(was, size)-from))
				steps := w.l.Steps()
				w.do(t, cutting(2, size)) // there is nothing to do any more
				if w.l.Steps() != steps {
					t.Fatalf("%s: cut to %d again: a step more", name, size)
				}
				w.do(t, syncing())
				w.onDisk(t)
			}
		}
	}
}

// P16.3: what is made longer behind a Cut reads as noughts, whatever stood there.
func TestLongerAgain(t *testing.T) {
	for name, indices := range files() {
		begin := fileOf(t, indices, false)
		was := int(begin.node(2).Size)
		for _, size := range about(indices, was) {
			w := newWorld(t, begin)
			w.do(t, cutting(2, size), sizing(2, min(api.MaxFile, size+9000)))
			from := max(0, size-3000)
			want := append(begin.read(2, from, size-from), make([]byte, min(api.MaxFile, size+9000)-size)...)
			if int(w.a.node(2).Size)-from != len(want) {
				t.Fatalf("%s: cut to %d and longer again it has %d bytes", name, size, w.a.node(2).Size)
			}
			w.reads(t, 2, from, want)
			w.sound(t)
		}
	}
}

// P16.4: Size of each file to each size: refused just where a block is mapped behind it.
func TestSize(t *testing.T) {
	for name, indices := range files() {
		for _, further := range []bool{false, true} {
			begin := fileOf(t, indices, further)
			last := -1
			if len(indices) > 0 {
				last = indices[len(indices)-1]
			}
			w := newWorld(t, begin)
			for _, size := range slices.Concat(about(indices, api.MaxFile), []int{api.MaxFile + 1, api.MaxFile + 1024}) {
				steps := w.l.Steps()
				w.do(t, sizing(2, size))
				if done := size > last*1024 && size <= api.MaxFile; done != (w.l.Steps() == steps+1) {
					t.Fatalf("%s: Size to %d: a step: %t", name, size, !done)
				}
				if w.l.Steps() != steps {
					w.sound(t)
					w.do(t, sizing(2, int(begin.node(2).Size)))
				}
			}
			w.agree(t)
		}
	}
}

// P16.2: what Step answers, told by itself: true as long as a group is left behind, false with the last one though that is given back, false where nothing is left.
func TestWhatStepAnswers(t *testing.T) {
	type stepped struct {
		more              bool
		steps, size, free int
	}
	for _, x := range []struct { // of 73 blocks that are free without the file
		name    string
		indices []int
		end     int // the Size ahead of it
		size    int // that is asked for
		want    []stepped
	}{
		{"one block", []int{0}, 1000, 0, []stepped{{false, 1, 0, 73}, {false, 0, 0, 73}}},
		{"a hole", nil, 50000, 0, []stepped{{false, 0, 50000, 73}}},
		{"a group at once", []int{0, 1, 2, 3, 4, 5, 6, 7}, 8192, 0, []stepped{{false, 1, 0, 73}, {false, 0, 0, 73}}},
		{"a group and one", []int{0, 1, 2, 3, 4, 5, 6, 7, 8}, 9000, 0, []stepped{{true, 1, 8192, 65}, {false, 1, 0, 73}, {false, 0, 0, 73}}},
		{"a group and one, and the first stays", []int{0, 1, 2, 3, 4, 5, 6, 7, 8}, 9000, 1, []stepped{{true, 1, 8192, 65}, {false, 1, 1024, 72}, {false, 0, 1024, 72}}},
		{"within a group", []int{0, 1, 2, 3}, 4096, 2000, []stepped{{false, 1, 2048, 71}, {false, 0, 2048, 71}}},
		{"the bound is a group's first", []int{7, 8, 9}, 10000, 8192, []stepped{{false, 1, 8192, 72}, {false, 0, 8192, 72}}},
		{"the bound is a group's last", []int{7, 8, 9}, 10000, 7168, []stepped{{true, 1, 8192, 72}, {false, 1, 7168, 73}, {false, 0, 7168, 73}}},
		{"a byte behind that", []int{7, 8, 9}, 10000, 7169, []stepped{{false, 1, 8192, 72}, {false, 0, 8192, 72}}},
		{"groups of holes between", []int{0, 50, 200}, 300000, 0, []stepped{{true, 1, 200 * 1024, 70}, {true, 1, 48 * 1024, 72}, {false, 1, 0, 73}, {false, 0, 0, 73}}},
		{"a hole at the end stays till something is given back", []int{0}, 300000, 1024, []stepped{{false, 0, 300000, 72}}},
		{"to the size there is", []int{0, 1}, 1500, 1500, []stepped{{false, 0, 1500, 71}}},
		{"to more", []int{0, 1}, 1500, 500000, []stepped{{false, 0, 1500, 71}}},
	} {
		w := newWorld(t, made(t, snug(t)).own(2, x.indices...).ends(2, x.end))
		for i, want := range x.want {
			before := w.l.Steps()
			more, err := trim.Step(w.l, 2, x.size)
			n, e := rack.Read(w.l, 2)
			free, f := room.Free(w.l)
			ok(t, err, e, f)
			if got := (stepped{more, w.l.Steps() - before, int(n.Size), free}); got != want {
				t.Errorf("%s, Step %d: %v, not %v", x.name, i, got, want)
			}
		}
	}
}

// P16.2: an index block is given back with the last number that stands in it, and not ahead of that; the double one with the last one below it.
func TestIndexBlocks(t *testing.T) {
	w := newWorld(t, made(t, snug(t)).own(2, 9, 10, 263, 264, 265, 266, 270, 272, 521, 522, 777))
	type look struct {
		size, blocks   int
		single, double bool
		last           int
	}
	for i, x := range []struct {
		size int
		want look
	}{
		{0, look{776 * 1024, 14, true, true, 522}},            // 777 and its place below the double one stay for 522
		{0, look{520 * 1024, 11, true, true, 272}},            // 521 and 522: the one above 522 is empty now, the one above 521 is not
		{272 * 1024, look{272 * 1024, 10, true, true, 270}},   // 272
		{267 * 1024, look{267 * 1024, 9, true, true, 266}},    // 270, of a group with 264 to 266
		{266 * 1024, look{266 * 1024, 6, true, false, 265}},   // 266 and both above it
		{264*1024 + 1, look{265 * 1024, 5, true, false, 264}}, // 265
		{264 * 1024, look{264 * 1024, 4, true, false, 263}},   // 264
		{11 * 1024, look{256 * 1024, 3, true, false, 10}},     // 263
		{10 * 1024, look{10 * 1024, 1, false, false, 9}},      // 10 and the one above it
		{9 * 1024, look{9 * 1024, 0, false, false, -1}},       // 9
	} {
		w.do(t, stepping(2, x.size))
		n, err := rack.Read(w.l, 2)
		last, e := chart.Last(w.l, 2, 0)
		ok(t, err, e)
		if got := (look{int(n.Size), int(n.Blocks), n.Single != 0, n.Double != 0, last}); got != x.want {
			t.Errorf("Step %d, to %d: %v, not %v", i, x.size, got, x.want)
		}
		w.agree(t)
		w.sound(t)
	}
}

// P16.2: an orphan directory is trimmed as a file is, its Size too, and stays an orphan; one that has Links is refused, and so are both by Cut and Size.
func TestDirectories(t *testing.T) {
	begin := kinds(t)
	w := newWorld(t, begin)
	w.do(t, stepping(6, 9*1024))
	is(t, w.l, 6, 9*1024, 9, begin.free()+3, 0, 1, 2, 3, 4, 5, 6, 7, 8)
	w.do(t, stepping(6, 8*1024+16), stepping(6, 0))
	is(t, w.l, 6, 8192, 8, begin.free()+4, 0, 1, 2, 3, 4, 5, 6, 7)
	w.do(t, stepping(6, 3*1024+16))
	is(t, w.l, 6, 4096, 4, begin.free()+8, 0, 1, 2, 3)
	w.do(t, stepping(6, 0), stepping(6, 0), stepping(7, 0))
	is(t, w.l, 6, 0, 0, begin.free()+12)
	for _, inum := range []int{6, 7} {
		if n, err := rack.Read(w.l, inum); n != (api.Node{Kind: api.KindDir}) || err != api.OK {
			t.Errorf("inode %d is %v, %d", inum, n, err)
		}
	}
	for _, links := range []uint16{1, 2, 3, 1000, 65535} { // any but 0
		a := begin.copied()
		n := a.node(6)
		n.Links = links
		a.has(6, n)
		w := newWorld(t, a)
		was := w.still()
		for _, size := range []int{0, 32, 1024, 11 * 1024, 12 * 1024, math.MaxInt} {
			refusesAll(t, w.l, 6, size, api.ErrIsDir)
		}
		w.stays(t, was)
	}
}

// An orphan that is a file is like any other: its Links are not asked. Kind and Links stay.
func TestOrphanFiles(t *testing.T) {
	w := newWorld(t, kinds(t))
	w.do(t, stepping(5, 20*1024), sizing(5, 300), sizing(5, 5000), cutting(5, 200))
	is(t, w.l, 5, 200, 1, w.a.free(), 0)
	w.do(t, cutting(5, 0))
	if n, err := rack.Read(w.l, 5); n != (api.Node{Kind: api.KindFile}) || err != api.OK {
		t.Errorf("the orphan is %v, %d", n, err)
	}
	w.do(t, cutting(2, 0))
	if n, err := rack.Read(w.l, 2); n != (api.Node{Kind: api.KindFile, Links: 1}) || err != api.OK {
		t.Errorf("the file is %v, %d", n, err)
	}
	w.sound(t)
}

// P16.4: the bytes behind a new end, told by themselves: noughts if the file becomes shorter, and untouched if it does not; a hole stays one.
func TestBytesBehind(t *testing.T) {
	for _, x := range []struct{ was, size int }{
		{3072, 2049}, {3072, 2500}, {3072, 3071}, {2500, 2499}, {2500, 2049}, {100000, 2500}, {100000, 3071}, {api.MaxFile, 2500},
		{3072, 3072}, {2500, 2500}, {2500, 2501}, {2500, 3072}, {2500, 100000}, {2500, api.MaxFile}, {3072, 3073}, {100000, 3072},
	} {
		w := newWorld(t, made(t, ten(t)).own(2, 0, 2).ends(2, x.was))
		before := w.a.read(2, 0, 3072)
		ok(t, trim.Size(w.l, 2, x.size))
		want := append(before[:min(len(before), x.size):min(len(before), x.size)], make([]byte, max(0, 3072-min(len(before), x.size)))...)
		for _, index := range []int{0, 2} {
			b, err := w.l.Read([]int{399, 0, 398}[index])
			if err != api.OK || !slices.Equal(b[:], want[1024*index:1024*(index+1)]) {
				t.Errorf("from %d to %d: the block of %d is not what it should be, %d", x.was, x.size, index, err)
			}
		}
		is(t, w.l, 2, x.size, 2, 359, 0, 2)
	}
	// The block at the end is another one than the last one that is mapped: it alone has the noughts, and a hole is none's.
	w := newWorld(t, made(t, ten(t)).own(2, 0, 1).ends(2, 100000))
	ok(t, trim.Size(w.l, 2, 5000))
	is(t, w.l, 2, 5000, 2, 359, 0, 1)
	w.reads(t, 2, 0, slices.Concat(w.a.read(2, 0, 2048), make([]byte, 5000-2048)))
}

// P16.4: bytes that stand behind the Size though they should not are none of a Size that is not less: that is told of those that are shorter alone.
func TestBytesBehindStay(t *testing.T) {
	a := made(t, ten(t)).own(2, 0)
	n := a.node(2)
	n.Size = 100
	a.has(2, n) // no noughts behind it
	for _, size := range []int{100, 101, 1024, 5000} {
		w := newWorld(t, a)
		w.do(t, sizing(2, size))
		if b, err := w.l.Read(399); b != mark(0) || err != api.OK {
			t.Errorf("to %d: the block has changed, %d", size, err)
		}
	}
	w := newWorld(t, a)
	w.do(t, sizing(2, 99))
	if b, err := w.l.Read(399); b[98] == 0 || b[99] != 0 || b[1023] != 0 || err != api.OK {
		t.Errorf("to less: the block is not what it should be, %d", err)
	}
}

// No other file changes, and nobody's blocks: all of them, byte for byte, ahead of it and behind it.
func TestOtherFiles(t *testing.T) {
	begin := kinds(t)
	for _, do := range []act{cutting(2, 0), cutting(2, 5), stepping(2, 0), sizing(2, 550000), sizing(2, 700000), cutting(5, 1), cutting(60, 100), stepping(6, 0), sizing(3, 0)} {
		w := newWorld(t, begin)
		was := w.still()
		w.do(t, do, syncing())
		now := w.still()
		var changed []int
		for inum := 1; inum <= 60; inum++ {
			if w.a.node(inum) != begin.node(inum) {
				changed = append(changed, inum)
			}
		}
		if len(changed) != 1 {
			t.Fatalf("these inodes have changed: %v", changed)
		}
		own := begin.owned(changed[0])
		for at := range begin.where.Geometry.Blocks {
			if now.blocks[at] != was.blocks[at] && at >= begin.where.DataAt && !slices.Contains(own, at) {
				t.Errorf("block %d has changed", at)
			}
			if begin.data(at) && !slices.Contains(own, at) && begin.bit(at) != w.a.bit(at) {
				t.Errorf("block %d was taken or given back", at)
			}
		}
		w.agree(t)
		w.sound(t)
	}
}

// Two files, cut in turn: each has its own blocks, and what one gives back the other may take.
func TestTwoFiles(t *testing.T) {
	w := newWorld(t, made(t, snug(t)))
	p, q := sown(1, 30000), sown(2, 30000)
	w.do(t, writing(2, 0, p), writing(3, 0, q))
	for size := 30000; size > 0; size -= 2777 {
		w.do(t, cutting(2, size), stepping(3, size), writing(3, 0, q))
		w.reads(t, 2, 0, p[:size])
		w.reads(t, 3, 0, q)
		w.agree(t)
		w.sound(t)
	}
}

// full is a disk with a file of as many bytes as may be, all of its blocks mapped; those are noughts.
func full(t testing.TB) *account {
	t.Helper()
	where := layout(t, 68000, 32, 16)
	a := made(t, where)
	next := where.DataAt + 1000
	fresh := func() uint32 {
		next++
		a.use(next)
		delete(a.now, next)
		return uint32(next)
	}
	table := func(below func() uint32) uint32 {
		at := fresh()
		for i := range 256 {
			a.holds(int(at), i, below())
		}
		return at
	}
	n := api.Node{Kind: api.KindFile, Links: 1, Size: api.MaxFile, Blocks: 10 + 257 + 1 + 256*257}
	for i := range n.Direct {
		n.Direct[i] = fresh()
	}
	n.Single = table(fresh)
	n.Double = table(func() uint32 { return table(fresh) })
	a.has(2, n)
	return a
}

// The greatest file there is, all of it mapped, cut to nothing: a step for each of its 8226 groups, the last of which has two blocks.
func TestFull(t *testing.T) {
	begin := full(t)
	free := begin.free()
	w := newWorld(t, begin)
	steps(t, w, "Size", api.ErrInval, 0, func() api.Errno { return trim.Size(w.l, 2, api.MaxFile-1024) })
	steps(t, w, "Cut to all", api.OK, 0, func() api.Errno { return trim.Cut(w.l, 2, api.MaxFile) })
	steps(t, w, "Step", api.OK, 1, steppedOnce(t, w, 2, 0, true))
	if n, err := rack.Read(w.l, 2); n.Size != 8225*8192 || err != api.OK {
		t.Errorf("the size is %d, %d", n.Size, err)
	}
	if n, err := room.Free(w.l); n != free+2 || err != api.OK {
		t.Errorf("%d are free, %d ahead of it, %d", n, free, err)
	}
	steps(t, w, "Cut within", api.OK, 8+1, func() api.Errno { return trim.Cut(w.l, 2, 8218*8192-5000) })
	is := func(size, blocks int) {
		t.Helper()
		n, err := rack.Read(w.l, 2)
		left, e := room.Free(w.l)
		if int(n.Size) != size || int(n.Blocks) != blocks || left != free+66060-blocks || err != api.OK || e != api.OK {
			t.Errorf("the inode is %v, %d, not of size %d, of %d blocks; %d are free, %d", n, err, size, blocks, left, e)
		}
	}
	is(8218*8192-5000, 66060-2-56-4)
	made := w.d.Made()
	steps(t, w, "Cut to nothing", api.OK, 8218, func() api.Errno { return trim.Cut(w.l, 2, 0) })
	is(0, 0)
	if w.d.Made()-made > 8218*(2*15+6) {
		t.Errorf("%d writes and barriers", w.d.Made()-made)
	}
	steps(t, w, "Size", api.OK, 1, func() api.Errno { return trim.Size(w.l, 2, api.MaxFile) })
	is(api.MaxFile, 0)
}

// A file as a list of bytes: cut, set, written and read at random, drawn anew the same way each time.
func TestAsBytes(t *testing.T) {
	draw := rand.New(rand.NewSource(16))
	w := newWorld(t, made(t, layout(t, 800, 32, 16)))
	var file []byte
	sized := func(size int) {
		file = append(file[:min(len(file), size):min(len(file), size)], make([]byte, max(0, size-len(file)))...)
	}
	for i := range 600 {
		size := []int{draw.Intn(300), draw.Intn(30000), draw.Intn(600000), draw.Intn(600) * 1024, draw.Intn(70) * 8192}[draw.Intn(5)]
		switch draw.Intn(6) {
		case 0, 1:
			ok(t, trim.Cut(w.l, 2, size))
			sized(min(size, len(file)))
		case 2:
			last, err := chart.Last(w.l, 2, 0)
			ok(t, err)
			switch err := trim.Size(w.l, 2, size); {
			case (err == api.ErrInval) != (size <= last*1024) || err != api.OK && err != api.ErrInval:
				t.Fatalf("act %d: Size(%d): %d, the last one is %d", i, size, err, last)
			case err == api.OK:
				sized(size)
			}
		case 3:
			steps := w.l.Steps()
			more, err := trim.Step(w.l, 2, size)
			n, e := rack.Read(w.l, 2)
			ok(t, err, e)
			if did := w.l.Steps() != steps; more && !did || did != (int(n.Size) != len(file)) || did && (int(n.Size) < size || n.Size%1024 != 0) {
				t.Fatalf("act %d: Step(%d): %t, the size is %d, ahead of it %d", i, size, more, n.Size, len(file))
			}
			sized(int(n.Size))
		default:
			p := sown(i, 1+draw.Intn(9000))
			if n, err := lay.Write(w.l, 2, size, p); n != len(p) || err != api.OK {
				t.Fatalf("act %d: Write(%d): %d, %d", i, size, n, err)
			}
			sized(max(len(file), size+len(p)))
			copy(file[size:], p)
		}
		w.count = i
		w.reads(t, 2, 0, file)
		if n, err := rack.Read(w.l, 2); int(n.Size) != len(file) || err != api.OK {
			t.Fatalf("act %d: the size is %d, %d, not %d", i, n.Size, err, len(file))
		}
	}
}
