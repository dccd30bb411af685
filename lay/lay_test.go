package lay_test

import (
	"math"
	"slices"
	"testing"

	"undercroft/api"
	"undercroft/chart"
	"undercroft/fetch"
	"undercroft/lay"
	"undercroft/rack"
	"undercroft/room"
	"undercroft/wal"
)

// borders are the indices at which something new begins: a block, a group of eight, what stands below the single index block, below the double one, and below those below it.
var borders = []int{1, 7, 8, 9, 10, 11, 15, 16, 264, 265, 266, 267, 272, 521, 522, 523, 528, 778, 65545, 65546, 65800, 65801}

// Chapter 15's examples, call by call.
func TestExamples(t *testing.T) {
	w := newWorld(t, made(t, ten(t)))
	writes := func(at int, p []byte, want int, e api.Errno, steps int) {
		t.Helper()
		before := w.l.Steps()
		if n, err := lay.Write(w.l, 2, at, p); n != want || err != e || w.l.Steps() != before+steps {
			t.Errorf("Write(2, %d, %d bytes): %d, %d, %d steps", at, len(p), n, err, w.l.Steps()-before)
		}
	}
	is := func(size, blocks int) {
		t.Helper()
		if n, err := rack.Read(w.l, 2); int(n.Size) != size || int(n.Blocks) != blocks || err != api.OK {
			t.Errorf("the inode is %v, %d, not of size %d, of %d blocks", n, err, size, blocks)
		}
	}
	writes(0, []byte("abc"), 3, api.OK, 1)
	is(3, 1)
	writes(8190, []byte("wxyz"), 4, api.OK, 2)
	is(8194, 3)
	writes(100000, []byte{5}, 1, api.OK, 1)
	is(100001, 5)
	var mapped []int
	for index := range chart.All(w.l, 2) {
		mapped = append(mapped, index)
	}
	if !slices.Equal(mapped, []int{0, 7, 8, 97}) {
		t.Errorf("%v are mapped", mapped)
	}
	writes(5, nil, 0, api.OK, 0)
	writes(67381249, nil, 0, api.ErrArg, 0)
	writes(67381248, []byte{1}, 0, api.ErrArg, 0)
	for at, p := range map[int][]byte{8191: {1, 2}, 0: {}} {
		if err := lay.Piece(w.l, 2, at, p); err != api.ErrArg {
			t.Errorf("Piece(2, %d, %d bytes): %d", at, len(p), err)
		}
	}
	is(100001, 5)

	w = newWorld(t, made(t, ten(t)).own(2, 97).leave(9))
	writes(204800, sown(1, 20000), 8192, api.OK, 1)
	if n, err := room.Free(w.l); n != 1 || err != api.OK {
		t.Errorf("%d are left, %d", n, err)
	}
	is(204800+8192, 2+8)
}

// DOC.md's examples 2, 3 and 10, as far as they are lay's.
func TestWholeExamples(t *testing.T) {
	w := newWorld(t, made(t, ten(t)))
	w.do(t, writing(2, 0, sown(1, 3)), writing(2, 100000, []byte{5}))
	n, err := rack.Read(w.l, 2)
	if want := (api.Node{Kind: api.KindFile, Links: 1, Size: 100001, Blocks: 3, Direct: [10]uint32{39}, Single: 40}); n != want || err != api.OK {
		t.Errorf("the inode is %v, %d", n, err)
	}
	if at, err := chart.At(w.l, 2, 97); at != 41 || err != api.OK {
		t.Errorf("97 is at %d, %d", at, err)
	}
	w.reads(t, 2, 99995, []byte{0, 0, 0, 0, 0, 5})

	w = newWorld(t, made(t, ten(t)).own(2, 0, 1, 2, 3, 4, 5, 6, 7).leave(2))
	was := w.still()
	if n, err := lay.Write(w.l, 2, 8192, sown(1, 20000)); n != 0 || err != api.ErrNoSpace {
		t.Errorf("with two free blocks: %d, %d", n, err)
	}
	w.stays(t, was)
}

// refusesAll asks whether all three calls are an error.
func refusesAll(t testing.TB, l *wal.Log, inum, at int, p []byte, e api.Errno) {
	if err := lay.Put(l, inum, at, p); err != e {
		t.Fatalf("Put(%d, %d, %d bytes): %d, not %d", inum, at, len(p), err, e)
	}
	if err := lay.Piece(l, inum, at, p); err != e {
		t.Fatalf("Piece(%d, %d, %d bytes): %d, not %d", inum, at, len(p), err, e)
	}
	if n, err := lay.Write(l, inum, at, p); n != 0 || err != e {
		t.Fatalf("Write(%d, %d, %d bytes): %d, %d, not %d", inum, at, len(p), n, err, e)
	}
}

// The numbers of the errors.
func TestErrorNumbers(t *testing.T) {
	is := func(err api.Errno, want int) {
		t.Helper()
		if int(err) != want {
			t.Errorf("%d, not %d", int(err), want)
		}
	}
	a := made(t, ten(t)).leave(0)
	n := a.node(3)
	n.Direct[0] = 400
	a.has(3, n)
	w := newWorld(t, a)
	is(lay.Piece(nil, 1, 0, []byte{1}), 1)
	is(lay.Piece(w.l, 0, 0, []byte{1}), 2)
	is(lay.Piece(w.l, 3, 0, []byte{1}), 4)
	is(lay.Piece(w.l, 2, 0, []byte{1}), 16)
	is(lay.Put(w.l, 2, 0, []byte{1}), 180)
	ok(t, w.l.Begin(1))
	is(lay.Put(w.l, 1, 1024-2, []byte{1}), 181) // the root's block, but its size no longer
	is(lay.Piece(w.l, 2, 0, []byte{1}), 180)
	w.d.Crash(nil)
	is(lay.Piece(w.l, 2, 0, []byte{1}), 3)
}

// The arguments that are asked with each other: numbers of inodes, places, bytes.
func someInums() []int {
	return []int{1, 2, 59, 60, 61, 62, 64, 0, -1, -2, -60, math.MinInt, math.MinInt + 1, 1 << 16, 1<<16 + 2, far(2), math.MaxInt - 1, math.MaxInt}
}

// somePlaces are also those at which a sum with the number of bytes wraps round.
func somePlaces() []int {
	shift := 40
	return []int{0, 1, 8191, 8192, -1, -2, -8192, math.MinInt, math.MinInt + 1, api.MaxFile - 8193, api.MaxFile - 8192, api.MaxFile - 1, api.MaxFile, api.MaxFile + 1, 1 << 30, 1 << shift, math.MaxInt32, far(1), far(-1), math.MaxInt - 8192, math.MaxInt - 8191, math.MaxInt - 1, math.MaxInt}
}

func someBytes() [][]byte {
	return [][]byte{nil, {}, {7}, sown(1, 2), sown(2, 1024), sown(3, 8192), sown(4, 8193)}
}

// each asks with all arguments.
func each(do func(inum, at int, p []byte)) {
	for _, inum := range someInums() {
		for _, at := range somePlaces() {
			for _, p := range someBytes() {
				do(inum, at, p)
			}
		}
	}
}

// greatest is a disk whose first and greatest inodes are files.
func greatest(t testing.TB) *account {
	t.Helper()
	a := made(t, ten(t))
	a.has(59, api.Node{Kind: api.KindFile})
	a.has(60, api.Node{Kind: api.KindFile, Links: 1, Size: 3000})
	return a
}

// P15.1: all arguments with each other, in a step and outside. What is refused changes nothing, which do asks for.
func TestArguments(t *testing.T) {
	for _, open := range []bool{false, true} {
		w := newWorld(t, greatest(t))
		each(func(inum, at int, p []byte) {
			if w.a.free() < 30 { // begun anew, so that ErrNoSpace hides nothing
				w = newWorld(t, greatest(t))
			}
			if open {
				w.do(t, beginning(30))
			}
			w.do(t, putting(inum, at, p), piecing(inum, at, p), writing(inum, at, p))
			if open {
				w.do(t, ending())
			}
		})
		w.agree(t)
	}
}

// P15.1: what is refused changes nothing at all, and no bytes that are put or written neither.
func TestUntouched(t *testing.T) {
	for _, open := range []bool{false, true} {
		w := newWorld(t, greatest(t).own(2, 3, 12))
		w.do(t, step(31, putting(2, 5000, sown(1, 3000))))
		if open {
			w.do(t, beginning(5))
		}
		was := w.still()
		each(func(inum, at int, p []byte) {
			if open && len(p) == 0 {
				lay.Put(w.l, inum, at, p)
			}
			if !open && len(p) == 0 {
				lay.Write(w.l, inum, at, p)
			}
			if w.a.refuses(open, inum, at, len(p)) != api.OK {
				lay.Put(w.l, inum, at, p)
				lay.Piece(w.l, inum, at, p)
				lay.Write(w.l, inum, at, p)
			}
		})
		refusesPut := func(inum, at int, p []byte) {
			if err := lay.Put(w.l, inum, at, p); (err == api.ErrStep) == open {
				t.Errorf("Put(%d, %d, %d bytes): %d", inum, at, len(p), err)
			}
		}
		refusesPut(0, -1, nil)
		refusesPut(61, math.MaxInt, sown(1, 9000))
		w.stays(t, was)
	}
}

// P15.1, rule 4: logs that are nil or that nobody made, whatever the arguments.
func TestNoLog(t *testing.T) {
	for _, open := range []bool{false, true} {
		w := newWorld(t, greatest(t))
		if open {
			w.do(t, beginning(23))
		}
		copied := *w.l
		was := w.still()
		for _, l := range []*wal.Log{nil, {}, &copied} {
			each(func(inum, at int, p []byte) { refusesAll(t, l, inum, at, p, api.ErrNil) })
		}
		w.stays(t, was)
	}
}

// P15.1, rule 4: a log that is closed is as one that nobody made, also where its disk has stopped or is claimed anew.
func TestClosedLog(t *testing.T) {
	for _, then := range []func(w *world){
		func(w *world) {},
		func(w *world) { w.d.Fuse(0); w.d.Barrier() },
		func(w *world) { w.d.Claim() },
		func(w *world) { w.d.Crash(nil) },
	} {
		w := newWorld(t, greatest(t))
		w.do(t, writing(2, 0, sown(1, 3000)))
		ok(t, w.l.Close())
		then(w)
		made := w.d.Made()
		each(func(inum, at int, p []byte) { refusesAll(t, w.l, inum, at, p, api.ErrNil) })
		if w.d.Made() != made {
			t.Errorf("%d things were done to the disk", w.d.Made()-made)
		}
	}
}

// P15.1, rule 7: a log whose disk has stopped or whose claim is over, whatever the arguments, also where no block would be touched; with a step open and without.
func TestDeadLog(t *testing.T) {
	for name, die := range map[string]func(w *world){
		"stopped by a barrier": func(w *world) { w.d.Fuse(0); w.d.Barrier() },
		"stopped by a write":   func(w *world) { w.d.Fuse(0); w.d.Write(40, api.Block{}) },
		"claimed":              func(w *world) { w.d.Claim() },
		"another log":          func(w *world) { newLog(t, w.d, w.a.where) },
		"power":                func(w *world) { w.d.Crash(nil) },
		"power, another log":   func(w *world) { w.d.Crash(nil); newLog(t, w.d, w.a.where) },
	} {
		for _, open := range []bool{false, true} {
			w := newWorld(t, greatest(t))
			w.do(t, writing(2, 0, sown(1, 3000)))
			if open {
				w.do(t, beginning(3))
			}
			die(w)
			made := w.d.Made()
			each(func(inum, at int, p []byte) { refusesAll(t, w.l, inum, at, p, api.ErrDead) })
			if w.d.Made() != made {
				t.Errorf("%s: %d things were done to the disk", name, w.d.Made()-made)
			}
		}
	}
}

// P15.1: the end at MaxFile, and one behind it, of few bytes and of many.
func TestGreatestPlace(t *testing.T) {
	for _, n := range []int{1, 2, 1023, 1024, 1025, 8191, 8192, 8193, 20000} {
		w := newWorld(t, made(t, ten(t)))
		for _, more := range []int{1, 2, n, 8192} {
			w.do(t, writing(2, api.MaxFile-n+more, sown(n, n)), piecing(2, api.MaxFile-n+more, sown(n, n)))
			w.do(t, step(31, putting(2, api.MaxFile-n+more, sown(n, n))))
		}
		w.do(t, writing(2, api.MaxFile-n, sown(n, n)))
		if size := w.a.node(2).Size; size != api.MaxFile {
			t.Errorf("%d bytes: the size is %d", n, size)
		}
		w.reads(t, 2, api.MaxFile-n, sown(n, n))
		w.do(t, piecing(3, api.MaxFile-n, sown(n, n)), step(31, putting(3, api.MaxFile-n, sown(n+1, n))))
		w.agree(t)
	}
}

// P15.1: more bytes than a file may have are refused, wherever they would begin; as many as one may have begin to be written.
func TestMoreThanAFile(t *testing.T) {
	w := newWorld(t, made(t, ten(t)))
	p := make([]byte, api.MaxFile+1)
	was := w.still()
	for _, at := range []int{0, 1, -1, api.MaxFile, math.MaxInt, math.MinInt} {
		if n, err := lay.Write(w.l, 2, at, p); n != 0 || err != api.ErrArg {
			t.Errorf("Write of too many bytes at %d: %d, %d", at, n, err)
		}
		if err := lay.Piece(w.l, 2, at, p); err != api.ErrArg {
			t.Errorf("Piece of too many bytes at %d: %d", at, err)
		}
	}
	w.stays(t, was)
	ok(t, w.l.Begin(31))
	if err := lay.Put(w.l, 2, 0, p); err != api.ErrArg {
		t.Errorf("Put of too many bytes: %d", err)
	}
	if err := lay.Put(w.l, 2, 0, p[1:]); err != api.ErrNoSpace {
		t.Errorf("Put of as many bytes as may be: %d", err)
	}
	ok(t, w.l.End())
	if n, err := lay.Write(w.l, 2, 0, p[1:]); n != 352*1024 || err != api.OK { // 361 are free, 8 a piece; two pieces want index blocks besides
		t.Errorf("Write of as many bytes as may be: %d, %d", n, err)
	}
}

// P15.1: Piece wants bytes of one group of eight, from its first to its last byte.
func TestGroups(t *testing.T) {
	for _, group := range []int{0, 1, 32, 33, 34, 65, 8224} {
		w := newWorld(t, made(t, ten(t)))
		for _, x := range []struct{ at, n int }{{0, 8192}, {0, 1}, {8191, 1}, {1, 8191}, {0, 8191}, {4000, 4000}, {0, 8193}, {8191, 2}, {-1, 2}, {-1, 1}, {-1, 8194}, {1, 8192}, {8192, 8192}, {0, 0}, {8191, 0}, {8192, 0}, {0, 16384}} {
			if at := group*8192 + x.at; at <= api.MaxFile-x.n {
				w.do(t, piecing(2, at, sown(x.at, x.n)))
			}
		}
		w.agree(t)
		w.sound(t)
		w.whole(t, 3)
	}
}

// P15.1: the first and the last inode of each block of the region, and the numbers beside the greatest.
func TestInodes(t *testing.T) {
	for _, inodes := range []int{3, 14, 15, 16, 17, 31, 32, 60, 65535} {
		a := made(t, layout(t, 5000, 32, inodes))
		inums := []int{1, 2, 14, 15, 16, 17, 31, 32, 33, 255, 256, 257, 32768, inodes - 1, inodes, inodes + 1}
		for _, inum := range inums {
			if a.there(inum) && inum > 3 {
				a.has(inum, api.Node{Kind: api.KindFile, Links: 1, Size: 7})
			}
		}
		w := newWorld(t, a)
		for _, inum := range append(inums, -1, 0, 1<<16, 1<<16+1, far(1), math.MinInt) {
			w.do(t, writing(inum, 500, sown(inum%100, 1000)), piecing(inum, 3, sown(1, 2)), step(9, putting(inum, 1020, sown(2, 10))))
		}
		w.agree(t)
	}
}

// P15.2: no bytes: nothing is done, though nothing is free and the step may change no block any more; but the errors of P15.1 are ahead of that.
func TestNoBytes(t *testing.T) {
	w := newWorld(t, made(t, ten(t)).leave(0))
	w.do(t, beginning(1), changing(50, mark(9)))
	was := w.still()
	for _, p := range [][]byte{nil, {}} {
		for _, at := range []int{0, 1, 5, 1024, 100000, api.MaxFile - 1, api.MaxFile} {
			for inum := range 4 {
				w.do(t, putting(inum, at, p))
			}
		}
		w.do(t, putting(2, api.MaxFile+1, p), putting(2, -1, p), putting(61, 0, p))
	}
	w.stays(t, was)
	w.do(t, ending())
	was = w.still()
	for _, at := range []int{0, 1, 5, 1024, 100000, api.MaxFile, api.MaxFile + 1, -1} {
		w.do(t, writing(2, at, nil), writing(2, at, []byte{}), piecing(2, at, nil), piecing(2, at, []byte{}))
	}
	w.stays(t, was)
}

// P15.2: bytes about each border, where the block ahead of it, the one behind it, both and none are mapped, and where the index blocks above them are there for others' sake and where they are not; by all three calls.
func TestBorders(t *testing.T) {
	ways := []func(at int, p []byte) act{
		func(at int, p []byte) act { return writing(2, at, p) },
		func(at int, p []byte) act { return piecing(2, at, p) },
		func(at int, p []byte) act { return step(30, putting(2, at, p)) },
	}
	for _, border := range borders {
		for choice := range 8 {
			var indices []int
			for i, l := range [][]int{{border - 1}, {border}, {9, 100, 400, 600, 700, 65000, 65700}} {
				if choice>>i&1 == 1 {
					indices = append(indices, l...)
				}
			}
			slices.Sort(indices)
			begin := made(t, snug(t)).own(2, slices.Compact(indices)...)
			for _, way := range ways {
				w := newWorld(t, begin)
				for i, x := range []struct{ at, n int }{{-1, 1}, {0, 1}, {-1, 2}, {-3, 7}, {-1024, 1024}, {0, 1024}, {-500, 1000}, {-1024, 2048}, {-1025, 1030}, {1000, 100}, {-1030, 3}} {
					at := max(0, border*1024+x.at)
					w.do(t, way(at, sown(i, min(x.n, api.MaxFile-at))))
				}
				w.agree(t)
				w.sound(t)
				from := max(0, border-3) * 1024
				w.reads(t, 2, from, w.a.read(2, from, 6*1024))
			}
		}
	}
}

// P15.2: writing behind the end leaves holes and noughts, into a hole fills it alone, within a block leaves its other bytes; the size grows by what ends behind it alone.
func TestHoles(t *testing.T) {
	w := newWorld(t, made(t, layout(t, 2000, 32, 20)))
	has := func(size int, mapped ...int) {
		t.Helper()
		if n, err := rack.Read(w.l, 2); int(n.Size) != size || err != api.OK {
			t.Fatalf("the size is %d, %d, not %d", n.Size, err, size)
		}
		var l []int
		for index := range chart.All(w.l, 2) {
			l = append(l, index)
		}
		if !slices.Equal(l, mapped) {
			t.Fatalf("%v are mapped, not %v", l, mapped)
		}
		w.agree(t)
		w.sound(t)
	}
	w.do(t, writing(2, 5000, []byte("far")))
	has(5003, 4)
	w.reads(t, 2, 0, append(make([]byte, 5000), 'f', 'a', 'r'))
	w.do(t, writing(2, 2047, []byte("x")))
	has(5003, 1, 4)
	w.do(t, writing(2, 2048, []byte("y")))
	has(5003, 1, 2, 4)
	w.reads(t, 2, 2046, []byte{0, 'x', 'y', 0})
	w.do(t, writing(2, 5002, []byte("R!")))
	has(5004, 1, 2, 4)
	w.reads(t, 2, 4999, []byte("\x00faR!"))
	w.do(t, writing(2, 5000, []byte("Fa")), writing(2, 5003, []byte("?")))
	has(5004, 1, 2, 4)
	w.reads(t, 2, 4999, []byte("\x00FaR?"))
	w.do(t, writing(2, 5010, []byte("z"))) // noughts between, in one block
	has(5011, 1, 2, 4)
	w.reads(t, 2, 5003, []byte("?\x00\x00\x00\x00\x00\x00z"))
	w.do(t, writing(2, 6143, []byte("e")), writing(2, 6144, []byte("n")))
	has(6145, 1, 2, 4, 5, 6)
	w.do(t, writing(2, 300*1024, sown(1, 1024)), writing(2, 20*1024+5, sown(2, 10)))
	has(301*1024, 1, 2, 4, 5, 6, 20, 300)
	w.do(t, writing(2, 0, sown(3, 3*1024))) // over a hole and what is mapped
	has(301*1024, 0, 1, 2, 4, 5, 6, 20, 300)
	w.whole(t, 2)
	w.do(t, writing(3, 2, []byte{9})) // within the size of a file that has no block
	w.reads(t, 3, 0, []byte{0, 0, 9, 0, 0})
	w.sound(t)
}

// P15.4: long writes over many groups, from many places on, in pieces that fit no border: all that was written is read.
func TestLong(t *testing.T) {
	for _, at := range []int{0, 1, 1023, 1024, 8191, 8192, 10*1024 - 1, 260 * 1024, 266*1024 - 5, 520*1024 + 77} {
		w := newWorld(t, made(t, layout(t, 3000, 32, 20)))
		p := sown(at, 600*1024+300)
		before := w.l.Steps()
		w.do(t, writing(2, at, p))
		if steps := (at+len(p)-1)/8192 - at/8192 + 1; w.l.Steps()-before != steps {
			t.Errorf("%d steps, not %d", w.l.Steps()-before, steps)
		}
		w.reads(t, 2, at, p)
		w.sound(t)
		w.do(t, writing(2, at+5000, sown(5, 300000)))
		w.reads(t, 2, at, slices.Concat(p[:5000], sown(5, 300000), p[305000:]))
		w.sound(t)
		w.agree(t)
	}
}

// A directory and an orphan are written as files are: the kind is not asked.
func TestOthers(t *testing.T) {
	a := made(t, ten(t))
	a.has(4, api.Node{Kind: api.KindDir, Links: 2, Size: 48})
	a.has(5, api.Node{Kind: api.KindFile, Size: 100})
	a.has(6, api.Node{Kind: api.KindDir})
	w := newWorld(t, a)
	entry := append([]byte{4, 0, 'd'}, make([]byte, 13)...)
	w.do(t, step(8, putting(1, 32, entry)))
	if p, err := fetch.Read(w.l, 1, 0, 100); err != api.OK || len(p) != 48 || p[0] != 1 || p[18] != '.' || p[34] != 'd' {
		t.Errorf("the root is %v, %d", p, err)
	}
	for _, inum := range []int{1, 4, 5, 6} {
		w.do(t, step(31, putting(inum, 1010, sown(inum, 3000))), piecing(inum, 16, sown(inum, 16)), writing(inum, 9*1024+500, sown(inum, 5000)))
		n, err := rack.Read(w.l, inum)
		if err != api.OK || n.Kind != a.node(inum).Kind || n.Links != a.node(inum).Links || n.Size != 9*1024+5500 {
			t.Errorf("inode %d is %v, %d", inum, n, err)
		}
		w.whole(t, inum)
	}
	w.agree(t)
	w.sound(t)
}

// Whether an inode is free is not asked either: it has the bytes, and is as free as it was.
func TestFreeInode(t *testing.T) {
	w := newWorld(t, made(t, ten(t)))
	w.do(t, piecing(9, 5, sown(1, 3000)), writing(10, 0, sown(2, 10)), step(9, putting(11, 0, sown(3, 2))))
	w.agree(t)
}

// Rule 3: what is handed in may be the same bytes for many calls, and what was read by fetch.
func TestShared(t *testing.T) {
	w := newWorld(t, made(t, ten(t)))
	p := sown(1, 5000)
	ok(t, lay.Piece(w.l, 2, 0, p), lay.Piece(w.l, 3, 100, p[100:]))
	clear(p)
	w.reads(t, 2, 0, sown(1, 5000))
	w.reads(t, 3, 0, append(make([]byte, 100), sown(1, 5000)[100:]...))
	q, err := fetch.Read(w.l, 2, 0, 3000)
	ok(t, err, lay.Piece(w.l, 2, 1000, q)) // a file's bytes over its own
	w.reads(t, 2, 0, slices.Concat(sown(1, 5000)[:1000], sown(1, 5000)[:3000], sown(1, 5000)[4000:]))
}
