package fetch_test

import (
	"bytes"
	"maps"
	"math"
	"slices"
	"testing"

	"undercroft/api"
	"undercroft/chart"
	"undercroft/fetch"
	"undercroft/rack"
	"undercroft/wal"
)

// borders are the indices at which something new begins: a block, what stands below the single index block, below the double one, and below those below it.
var borders = []int{1, 2, 9, 10, 11, 265, 266, 267, 521, 522, 523, 778, 65545, 65546, 65801}

// example is the file of the chapter's examples, inode 2, mapped and written in steps as DOC.md's examples 2 and 3 do.
func example(t testing.TB) *wal.Log {
	t.Helper()
	g := bare(t, ten(t))
	g.pick = rising(38)
	g.lay(1, rootFile())
	g.has(2, api.Node{Kind: api.KindFile, Links: 1})
	l := g.open(t).l
	lay := func(index, place, want, size int, p ...byte) {
		t.Helper()
		ok(t, l.Begin(api.StepWrite))
		at, err := chart.Map(l, 2, index)
		if at != want || err != api.OK {
			t.Fatalf("the index %d is at %d, %d", index, at, err)
		}
		b, err := l.Read(at)
		copy(b[place:], p)
		ok(t, err, l.Write(at, b))
		n, err := rack.Read(l, 2)
		n.Size = uint32(size)
		ok(t, err, rack.Write(l, 2, n), l.End())
	}
	lay(0, 0, 39, 3, 7, 8, 9)
	lay(97, 100000-97*1024, 41, 100001, 5)
	return l
}

// Chapter 14's examples, call by call.
func TestExamples(t *testing.T) {
	l := example(t)
	reads(t, l, 2, 0, 5, []byte{7, 8, 9, 0, 0}, api.OK)
	reads(t, l, 2, 99995, 10, []byte{0, 0, 0, 0, 0, 5}, api.OK)
	reads(t, l, 2, 100001, 10, nil, api.OK)
	for _, at := range great() { // 1 << 40 is among them
		reads(t, l, 2, at, 1, nil, api.OK)
	}
	reads(t, l, 1, 0, 32, []byte{1, 0, 46, 0, 0, 0, 0, 0, 0, 0, 0, 0, 0, 0, 0, 0, 1, 0, 46, 46, 0, 0, 0, 0, 0, 0, 0, 0, 0, 0, 0, 0}, api.OK)
	reads(t, l, 2, -1, 1, nil, api.ErrArg)
	reads(t, l, 2, 0, 65537, nil, api.ErrArg)
	reads(t, l, 0, 0, 1, nil, api.ErrArg)
	reads(t, l, 61, 0, 1, nil, api.ErrArg)
	reads(t, l, 3, 0, 1, nil, api.ErrInval)
}

// The numbers of the errors.
func TestErrorNumbers(t *testing.T) {
	is := func(l *wal.Log, inum, want int) {
		t.Helper()
		if p, err := fetch.Read(l, inum, 0, 1); int(err) != want || len(p) != 0 {
			t.Errorf("Read of inode %d: %v, %d, not %d", inum, p, int(err), want)
		}
	}
	w := newWorld(t, ten(t), nil)
	is(nil, 1, 1)
	is(w.l, 0, 2)
	is(w.l, 3, 4)
	w.d.Crash(nil)
	is(w.l, 1, 3)
}

// The arguments that are asked with each other: numbers of inodes, places, counts.
var (
	someInums  = []int{1, 2, 3, 5, 59, 60, 61, 62, 64, 0, -1, -2, -60, -64, math.MinInt, math.MinInt + 1, 1 << 16, 1<<16 + 2, far(2), math.MaxInt - 1, math.MaxInt}
	somePlaces = slices.Concat([]int{0, 1, 1023, 1024, 2999, 3000, 3001, -1, -2, -1024, math.MinInt, math.MinInt + 1}, great())
	someCounts = []int{0, 1, 2, 1024, 65535, 65536, 65537, 65538, 1 << 17, far(1), math.MaxInt - 1, math.MaxInt, -1, -2, -65536, math.MinInt, math.MinInt + 1}
)

// each asks with all arguments.
func each(do func(inum, at, count int)) {
	for _, inum := range someInums {
		for _, at := range somePlaces {
			for _, count := range someCounts {
				do(inum, at, count)
			}
		}
	}
}

// sample has a file with a hole, one without a block, an orphan and, the greatest inode, one of one byte; all others are free.
func sample(t testing.TB) *world {
	t.Helper()
	orphan := sown(3, 1500, 0, 1)
	orphan.links = 0
	return newWorld(t, ten(t), map[int]file{2: sown(2, 3000, 0, 2), 5: sown(5, 3000), 59: orphan, 60: sown(60, 1, 0)})
}

// P14.1: ErrArg of each argument that may not be, ahead of ErrInval of a free inode; else the bytes.
func TestArguments(t *testing.T) {
	w := sample(t)
	was := w.still()
	each(func(inum, at, count int) { w.reads(t, inum, at, count) })
	w.stays(t, was)
}

// P14.1, rule 4: logs that are nil or that nobody made, whatever the arguments.
func TestNoLog(t *testing.T) {
	w := sample(t)
	copied := *w.l
	for _, l := range []*wal.Log{nil, {}, &copied} {
		each(func(inum, at, count int) { reads(t, l, inum, at, count, nil, api.ErrNil) })
	}
	w.whole(t, 2, 700)
}

// P14.1, rule 4: a log that is closed is as one that nobody made, also where its disk has stopped or is claimed anew.
func TestClosedLog(t *testing.T) {
	for _, then := range []func(w *world){
		func(w *world) {},
		func(w *world) { w.d.Fuse(0); w.d.Barrier() },
		func(w *world) { w.d.Claim() },
		func(w *world) { w.d.Crash(nil) },
	} {
		w := sample(t)
		reads(t, w.l, 60, 0, 1, w.files[60].data[0][:1], api.OK)
		ok(t, w.l.Close())
		then(w)
		each(func(inum, at, count int) { reads(t, w.l, inum, at, count, nil, api.ErrNil) })
	}
}

// P14.1, rule 7: a log whose disk has stopped or whose claim is over, whatever the arguments, also where no block would be read; with a step open and without.
func TestDeadLog(t *testing.T) {
	for name, die := range map[string]func(w *world){
		"stopped by a barrier": func(w *world) { w.d.Fuse(0); w.d.Barrier() },
		"stopped by a write":   func(w *world) { w.d.Fuse(0); w.d.Write(40, api.Block{}) },
		"claimed":              func(w *world) { w.d.Claim() },
		"another log":          func(w *world) { newLog(t, w.d, w.where) },
		"power":                func(w *world) { w.d.Crash(nil) },
		"power, another log":   func(w *world) { w.d.Crash(nil); newLog(t, w.d, w.where) },
	} {
		for _, open := range []bool{false, true} {
			w := sample(t)
			w.whole(t, 2, 1024) // what was read ahead of that does not live on
			if open {
				ok(t, w.l.Begin(3))
			}
			die(w)
			made := w.d.Made()
			each(func(inum, at, count int) { reads(t, w.l, inum, at, count, nil, api.ErrDead) })
			if w.d.Made() != made {
				t.Errorf("%s: %d things were done to the disk", name, w.d.Made()-made)
			}
		}
	}
}

// P14.1: a disk that stops in a commit: what was read ahead of that is ErrDead from then on.
func TestStoppedCommit(t *testing.T) {
	w := sample(t)
	ok(t, w.l.Begin(1), w.l.Write(50, api.Block{1}), w.l.End())
	w.d.Fuse(2)
	w.whole(t, 2, 1024) // the fuse is not touched
	if err := w.l.Sync(); err != api.ErrDead {
		t.Fatalf("Sync: %d", err)
	}
	each(func(inum, at, count int) { reads(t, w.l, inum, at, count, nil, api.ErrDead) })
}

// P14.1: the first and the last inode of each block of the region, and the numbers beside the greatest, whatever stands in the places that are no inode's.
func TestInodes(t *testing.T) {
	for _, inodes := range []int{1, 14, 15, 16, 17, 31, 32, 60, 65535} {
		where := layout(t, 5000, 32, inodes)
		g, files := bare(t, where), map[int]file{}
		last := 16*where.NodeBlocks - 1
		for _, inum := range []int{0, 1, 2, 14, 15, 16, 17, 31, 32, 33, 255, 256, 257, 32767, 32768, inodes - 1, inodes, inodes + 1, last - 1, last} {
			if inum > last || files[inum].kind != 0 {
				continue
			}
			files[inum] = sown(inum, 1000+inum%100, 0)
			g.lay(inum, files[inum])
		}
		w := g.open(t)
		w.files = files
		for inum := range maps.Keys(files) {
			w.reads(t, inum, 0, 2000)
			w.reads(t, inum, 500, 100)
		}
		for _, inum := range []int{-1, 3, 1 << 16, 1<<16 + 1, far(1), math.MinInt} {
			w.reads(t, inum, 0, 2000)
		}
	}
}

// P14.1: places ahead of, at and behind the size, of files of sizes about each border, with all of their blocks and with none.
func TestSizes(t *testing.T) {
	sizes := []int{0, 1, 2, 15, 16, 1022}
	for _, border := range borders {
		sizes = append(sizes, border*1024-1, border*1024, border*1024+1, border*1024+1023)
	}
	for _, size := range sizes {
		end := (size + 1023) / 1024
		w := newWorld(t, layout(t, 1200, 32, 20), map[int]file{2: sown(size, size, through(max(0, end-70), end-1)...), 3: sown(size, size)})
		for _, inum := range []int{2, 3} {
			for _, back := range []int{-1025, -1024, -1023, -2, -1, 0, 1, 2, 3, 1023, 1024, 1025, 65535, 65536, 65537, size} {
				for _, count := range []int{0, 1, 2, 3, 1023, 1024, 1025, 65535, 65536} {
					w.reads(t, inum, max(0, size-back), count)
				}
			}
			for _, at := range great() {
				w.reads(t, inum, at, 0)
				w.reads(t, inum, at, 65536)
			}
		}
	}
}

// P14.1: bytes about each border, where the block ahead of it, the one behind it, both and none are mapped, and where the index blocks above them are there for others' sake and where they are not.
func TestBorders(t *testing.T) {
	for _, border := range borders {
		for choice := range 8 {
			var indices []int
			for i, l := range [][]int{{border - 1}, {border}, {9, 100, 400, 600, 700, 65000, 65700}} {
				if choice>>i&1 == 1 {
					indices = append(indices, l...)
				}
			}
			indices = slices.DeleteFunc(indices, func(i int) bool { return i > border })
			w := newWorld(t, ten(t), map[int]file{2: sown(border, border*1024+1000, indices...)})
			for _, at := range []int{-1025, -1024, -1023, -3, -2, -1, 0, 1, 2, 998, 999, 1000} {
				for _, count := range []int{0, 1, 2, 3, 4, 1023, 1024, 1025, 2048, 2049} {
					w.reads(t, 2, max(0, border*1024+at), count)
				}
			}
		}
	}
}

// P14.1: a file of 800 blocks, all of them mapped, over all kinds of index blocks: each byte, in parts of many lengths, and from each block on as much as may be asked for.
func TestDense(t *testing.T) {
	const size = 799*1024 + 77
	for _, where := range []api.Layout{layout(t, 2000, 32, 20), huge(t)} {
		w := newWorld(t, where, map[int]file{2: sown(1, size, through(0, 799)...), 3: sown(2, 5000, 0, 1, 2, 3, 4)})
		for _, part := range []int{511, 1000, 1024, 1025, 8192, 65535, 65536} {
			w.whole(t, 2, part)
		}
		for index := 0; index < 800; index += 13 {
			w.reads(t, 2, index*1024+index, 65536)
		}
		w.whole(t, 3, 100)
	}
}

// P14.1: a file with holes of many kinds: every second block, rows of holes, whole index blocks that are missing.
func TestHoles(t *testing.T) {
	var indices []int
	for i := range 1100 {
		if i%2 == 0 && i < 300 || i%7 < 3 && i >= 300 && i < 500 || i >= 800 && i%64 == 5 {
			indices = append(indices, i)
		}
	}
	w := newWorld(t, layout(t, 1000, 32, 20), map[int]file{2: sown(4, 1100*1024, indices...)})
	for _, part := range []int{1000, 1024, 4096, 65536} {
		w.whole(t, 2, part)
	}
}

// P14.1: a file that is as long as one may be, with a block here and there: all of it, and its last bytes.
func TestLongest(t *testing.T) {
	indices := []int{0, 5, 9, 10, 137, 265, 266, 400, 521, 522, 40000, 65290, 65545, 65546, 65800, 65801}
	f := sown(9, api.MaxFile, indices...)
	w := newWorld(t, ten(t), map[int]file{2: f, 3: sown(10, api.MaxFile), 4: sown(11, api.MaxFile-1, 65801)})
	noughts := make([]byte, 65536)
	for at := 0; at < api.MaxFile; at += 65536 {
		if slices.ContainsFunc(indices, func(i int) bool { return i >= at/1024 && i < at/1024+64 }) {
			w.reads(t, 2, at, 65536)
			continue
		}
		reads(t, w.l, 2, at, 65536, noughts, api.OK)
	}
	for _, inum := range []int{2, 3, 4} {
		for _, back := range []int{0, 1, 2, 1023, 1024, 1025, 65535, 65536, 65537} {
			for _, count := range []int{0, 1, 2, 1024, 65536} {
				w.reads(t, inum, api.MaxFile-back, count)
			}
		}
	}
}

// P14.1: directories, their free slots too, and orphans are read as files are.
func TestDirectories(t *testing.T) {
	d := sown(6, 16*700, through(0, 10)...)
	d.kind, d.links = api.KindDir, 5
	copy(d.data[1][32:], make([]byte, 48)) // three free slots
	gone := sown(7, 48, 0)
	gone.kind, gone.links = api.KindDir, 0
	spent := file{kind: api.KindDir}
	w := newWorld(t, ten(t), map[int]file{2: d, 3: gone, 4: spent, 5: {kind: api.KindFile}})
	for _, inum := range []int{1, 2, 3, 4, 5} {
		for _, part := range []int{1, 16, 17, 1024, 65536} {
			w.whole(t, inum, part)
		}
	}
}

// P14.2: no write, no barrier, nothing changed: neither in a step nor outside, neither with a group nor without; a step that may change one block may still change one.
func TestQuiet(t *testing.T) {
	for _, open := range []bool{false, true} {
		for _, full := range []bool{false, true} {
			w := sample(t)
			if full { // a group of as many blocks as one may have
				ok(t, w.l.Begin(31))
				for i := range 30 {
					ok(t, w.l.Write(50+i, api.Block{1, byte(i)}))
				}
				if !open {
					ok(t, w.l.Write(80, api.Block{1}), w.l.End())
				}
			} else if open {
				ok(t, w.l.Begin(1))
			}
			w.d.Fuse(0)
			was := w.still()
			each(func(inum, at, count int) { w.reads(t, inum, at, count) })
			w.whole(t, 2, 1)
			w.stays(t, was)
			if open {
				ok(t, w.l.Write(90, api.Block{1}))
				if err := w.l.Write(91, api.Block{1}); err != api.ErrTight {
					t.Errorf("the step may change another block: %d", err)
				}
			}
		}
	}
}

// P14.2: the blocks of a group that is committed behind much reading are what they were.
func TestQuietCommit(t *testing.T) {
	w := sample(t)
	ok(t, w.l.Begin(31))
	for i := range 31 {
		ok(t, w.l.Write(50+i, api.Block{1, byte(i)}))
	}
	ok(t, w.l.End())
	for range 3 {
		each(func(inum, at, count int) { w.reads(t, inum, at, count) })
	}
	ok(t, w.l.Sync())
	for i := range 31 {
		if b, err := w.d.Read(50 + i); b != (api.Block{1, byte(i)}) || err != api.OK {
			t.Errorf("block %d is %v, %d", 50+i, b[:4], err)
		}
	}
	w.whole(t, 2, 1024)
}

// P14.3: a part and what is behind it are the whole.
func TestParts(t *testing.T) {
	const size = 530*1024 + 300
	indices := slices.DeleteFunc(through(0, 530), func(i int) bool { return i%5 == 2 })
	w := newWorld(t, layout(t, 1000, 32, 20), map[int]file{2: sown(8, size, indices...)})
	read := func(at, count int) []byte {
		p, err := fetch.Read(w.l, 2, at, count)
		if err != api.OK {
			t.Fatalf("Read(%d, %d): %d", at, count, err)
		}
		return p
	}
	for _, at := range []int{0, 1, 1023, 1024, 5000, 10239, 10240, 10241, 265 * 1024, 266*1024 - 1, 266*1024 + 5, 522*1024 - 700, size - 3000, size - 2, size - 1, size, size + 1, math.MaxInt - 65536} {
		for _, m := range []int{0, 1, 2, 1023, 1024, 1025, 3000, 40000, 65535, 65536} {
			for _, n := range []int{0, 1, 2, 1024, 2500, 25536, 65536} {
				first := read(at, m)
				if len(first) < m || m+n > 65536 {
					continue
				}
				if whole := read(at, m+n); !bytes.Equal(whole, slices.Concat(first, read(at+m, n))) {
					t.Fatalf("from %d on, %d and %d: the parts are not the whole", at, m, n)
				}
			}
		}
	}
}

// Rule 3: an answer is memory of its own, its spare room too: it may be written over and appended to.
func TestOwnMemory(t *testing.T) {
	w := newWorld(t, ten(t), map[int]file{2: sown(1, 6*1024+50, 0, 1, 2, 4, 6), 3: sown(2, 100)})
	ok(t, w.l.Begin(1))
	was := w.still()
	asked := [][3]int{{1, 0, 32}, {2, 0, 1}, {2, 1, 1}, {2, 0, 1024}, {2, 1000, 100}, {2, 1100, 100}, {2, 0, 0}, {2, 3072, 1024}, {2, 3072, 1024}, {2, 3100, 10}, {2, 0, 65536}, {2, 0, 65536}, {2, 6 * 1024, 50}, {2, 6 * 1024, 51}, {3, 0, 100}, {3, 0, 99}, {2, 7000, 1}}
	var answers [][]byte
	for _, x := range asked {
		p, err := fetch.Read(w.l, x[0], x[1], x[2])
		ok(t, err)
		answers = append(answers, p)
	}
	agree := func(from int) {
		t.Helper()
		for i, x := range asked {
			want, _ := w.told(x[0], x[1], x[2])
			if i >= from && !bytes.Equal(answers[i], want) {
				t.Fatalf("answer %d, of %v, has changed", i, x)
			}
			w.reads(t, x[0], x[1], x[2])
		}
	}
	for i, p := range answers {
		agree(i)
		for j := range p[:cap(p)] {
			p[:cap(p)][j] = 0xaa
		}
		agree(i + 1)
		for range 70 {
			p = append(p, 0xbb)
		}
		agree(i + 1)
	}
	w.stays(t, was)
	for at := range w.where.Geometry.Blocks {
		b, err := w.l.Read(at)
		onDisk, e := w.d.Read(at)
		if b != onDisk || err != api.OK || e != api.OK {
			t.Errorf("block %d is not what the disk has", at)
		}
	}
}

// Rule 3: an answer stays as it is, whatever becomes of the file, the log and the disk.
func TestAnswerStays(t *testing.T) {
	w := sample(t)
	p, err := fetch.Read(w.l, 2, 0, 65536)
	ok(t, err)
	at, err := chart.At(w.l, 2, 0)
	ok(t, err, w.l.Begin(9), w.l.Write(at, api.Block{0xaa}))
	_, err = chart.Drop(w.l, 2, 0, 10)
	ok(t, err, rack.Write(w.l, 2, api.Node{}), w.l.End(), w.l.Sync(), w.l.Close(), w.d.Crash(nil))
	if !bytes.Equal(p, w.files[2].read(0, 65536)) {
		t.Error("the answer has changed with the file")
	}
}

// Rule 6: two logs of two disks, with files of the same number, do not know of each other.
func TestTwoLogs(t *testing.T) {
	one := newWorld(t, ten(t), map[int]file{2: sown(1, 5000, 0, 1, 2, 3, 4)})
	two := newWorld(t, ten(t), map[int]file{2: sown(2, 4000, 0, 2, 3), 3: sown(3, 10, 0)})
	for at := 0; at < 6000; at += 500 {
		for _, inum := range []int{1, 2, 3} {
			one.reads(t, inum, at, 700)
			two.reads(t, inum, at, 700)
		}
	}
	two.d.Crash(nil)
	one.whole(t, 2, 1024)
}
