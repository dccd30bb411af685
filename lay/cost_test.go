package lay_test

import (
	"slices"
	"testing"

	"undercroft/api"
	"undercroft/chart"
	"undercroft/lay"
	"undercroft/rack"
	"undercroft/room"
)

// P15.2: which blocks are written, in which order: the bitmap's and the block itself by Map (index blocks ahead), the inode; a block into which bytes fall counts once.
func TestWhatIsWritten(t *testing.T) {
	fresh := made(t, ten(t))
	for _, x := range []struct {
		name  string
		begin *account
		at, n int
		group []int
	}{
		{"a new block", fresh, 0, 3, []int{37, 39, 33}},
		{"two new blocks", fresh, 1020, 10, []int{37, 39, 33, 40}},
		{"a new block below the single index block", fresh, 10 * 1024, 1, []int{37, 39, 40, 33}},
		{"the last direct one and the first below the single one", fresh, 10*1024 - 1, 2, []int{37, 39, 33, 40, 41}},
		{"the first below the double index block", fresh, 266 * 1024, 1, []int{37, 39, 40, 41, 33}},
		{"a group with all kinds of index blocks", fresh, 264 * 1024, 8192, []int{37, 39, 40, 33, 41, 42, 43, 44, 45, 46, 47, 48, 49}},
		{"a block that is mapped, within the size", made(t, ten(t)).own(2, 0, 1), 5, 10, []int{399}},
		{"the last byte of the size", made(t, ten(t)).own(2, 0, 1), 2047, 1, []int{398}},
		{"two blocks that are mapped", made(t, ten(t)).own(2, 0, 1), 1000, 1000, []int{399, 398}},
		{"one that is mapped, and a new one", made(t, ten(t)).own(2, 0, 1), 2000, 100, []int{398, 37, 39, 33}},
		{"a hole within the size", made(t, ten(t)).own(2, 1), 0, 3, []int{37, 39, 33}},
		{"one more below an index block that is there", made(t, ten(t)).own(2, 10), 11*1024 + 3, 5, []int{37, 39, 399, 33}},
		{"a hole between mapped ones", made(t, ten(t)).own(2, 0, 2), 0, 3072, []int{399, 37, 39, 33, 398}},
	} {
		w := newWorld(t, x.begin)
		w.do(t, piecing(2, x.at, sown(1, x.n)))
		t.Log(x.name)
		w.wrote(t, x.group...)
		w = newWorld(t, x.begin)
		w.do(t, beginning(len(x.group)), putting(2, x.at, sown(1, x.n)))
		w.wrote(t, x.group...)
		w.agree(t)
	}
}

// P15.2: the size alone costs its inode's block, behind the bytes' one.
func TestSizeIsWritten(t *testing.T) {
	a := made(t, ten(t)).own(2, 0)
	n := a.node(2)
	n.Size = 100
	a.has(2, n)
	b := a.now[399]
	clear(b[100:])
	a.now[399] = b
	for _, x := range []struct {
		at, n int
		group []int
	}{
		{0, 100, []int{399}},
		{99, 1, []int{399}},
		{99, 2, []int{399, 33}},
		{100, 1, []int{399, 33}},
		{0, 1024, []int{399, 33}},
		{1023, 1, []int{399, 33}},
	} {
		w := newWorld(t, a)
		w.do(t, writing(2, x.at, sown(1, x.n)))
		w.wrote(t, x.group...)
		w.sound(t)
	}
}

// A block is written though it has those bytes already: the step changes it.
func TestSameBytes(t *testing.T) {
	w := newWorld(t, made(t, ten(t)))
	w.do(t, writing(2, 0, sown(1, 2000)), syncing(), writing(2, 0, sown(1, 2000)))
	w.wrote(t, 39, 40)
}

// sheets is a disk of a bitmap of many blocks, on which just one block is free by each of some of them.
func sheets(t testing.TB, n int) *account {
	t.Helper()
	a := made(t, layout(t, (n+1)*8192, 32, 20))
	var full api.Block
	for i := range full {
		full[i] = 255
	}
	for i := range n + 1 {
		a.now[a.where.BitsAt+i] = full
	}
	for i := 1; i <= n; i++ {
		at := i*8192 + 4000 + i
		b := full
		b[at%8192/8] &^= 1 << (at % 8)
		a.now[a.where.BitsAt+i] = b
		a.now[at] = mark(at)
	}
	return a
}

// P10: a step costs no more than StepWrite, and there is one that costs as much: eleven blocks, the bitmap's block of each of them, the inode's.
func TestGreatestStep(t *testing.T) {
	begin := sheets(t, 11)
	for _, group := range []int{33, 65} { // 264 to 271; 520 to 527, with the single index block not asked for, but two below the double one
		w := newWorld(t, begin)
		w.do(t, piecing(2, group*8192, sown(1, 8192)))
		if w.l.Used() != 23 {
			t.Fatalf("group %d: %d blocks", group, w.l.Used())
		}
		if n, err := room.Free(w.l); n != 0 || err != api.OK {
			t.Fatalf("group %d: %d are left, %d", group, n, err)
		}
		w.reads(t, 2, group*8192, sown(1, 8192))
		w.agree(t)
		w.do(t, syncing())
		w.onDisk(t)
	}
	w := newWorld(t, begin)
	w.do(t, beginning(23), putting(2, 264*1024, sown(1, 8192)), ending())
	w.agree(t)
	w = newWorld(t, begin)
	w.do(t, beginning(22), putting(2, 264*1024, sown(1, 8192)), ending())
	if w.a.node(2).Size != 0 {
		t.Errorf("a step of 22 blocks was enough")
	}
	w.agree(t)
}

// P15.5, P10: pieces of all kinds, each held against what Need and Free said ahead of it; no step has more blocks than StepWrite.
func TestNeed(t *testing.T) {
	for _, begin := range []*account{made(t, layout(t, 1500, 64, 20)), made(t, layout(t, 1500, 64, 20)).own(2, 3, 12, 100, 266, 400, 530)} {
		w := newWorld(t, begin)
		for i, at := range []int{0, 5, 1000, 1024, 8100, 10 * 1024, 12*1024 + 5, 263 * 1024, 264 * 1024, 267 * 1024, 520*1024 + 7, 522 * 1024, 600 * 1024, 65544 * 1024, 65800 * 1024} {
			n := min(8192-at%8192, 1+i*1000, api.MaxFile-at)
			w.do(t, syncing())
			need, err := chart.Need(w.l, 2, at/1024, (at+n-1)/1024-at/1024+1)
			free, e := room.Free(w.l)
			ok(t, err, e)
			w.do(t, piecing(2, at, sown(i, n)))
			if left, err := room.Free(w.l); left != free-need || err != api.OK || w.l.Used() > api.StepWrite {
				t.Fatalf("at %d, %d bytes: %d were free, %d needed, %d are left; %d blocks changed", at, n, free, need, left, w.l.Used())
			}
			if need, err := chart.Need(w.l, 2, at/1024, (at+n-1)/1024-at/1024+1); need != 0 || err != api.OK {
				t.Fatalf("at %d, %d bytes: %d are needed still, %d", at, n, need, err)
			}
		}
		w.agree(t)
		w.sound(t)
	}
}

// P15.3, P15.4, P10: how many steps, and that a write commits what was ahead of it as wal's Begin does, at most 2 r + 6 writes and barriers a step.
func TestSteps(t *testing.T) {
	for _, log := range []int{32, 33, 54, 55, 100, 256} {
		w := newWorld(t, made(t, layout(t, 3000, log, 20)))
		for i, x := range []struct{ at, n, steps int }{{0, 3, 1}, {8190, 4, 2}, {0, 8192, 1}, {0, 8193, 2}, {8191, 8194, 3}, {16384, 65536, 8}, {16383, 65536, 9}, {16385, 65536, 9}, {5, 0, 0}, {263 * 1024, 24576, 4}, {2, 500000, 62}} {
			before, made := w.l.Steps(), w.d.Made()
			w.do(t, writing(2, x.at, sown(i, x.n)))
			if got := w.l.Steps() - before; got != x.steps || w.d.Made()-made > x.steps*(2*23+6) {
				t.Errorf("%d bytes at %d: %d steps, not %d; %d things done", x.n, x.at, got, x.steps, w.d.Made()-made)
			}
			w.reads(t, 2, x.at, sown(i, x.n))
		}
		w.agree(t)
	}
}

// P15.3: a step that is begun is over behind the call, and one more may be begun, whatever became of the call.
func TestStepIsEnded(t *testing.T) {
	a := made(t, ten(t)).leave(3)
	n := a.node(3)
	n.Direct[3] = 37
	a.has(3, n)
	w := newWorld(t, a)
	for _, call := range []func() (int, api.Errno){
		func() (int, api.Errno) { return 0, lay.Piece(w.l, 2, 0, sown(1, 1000)) },
		func() (int, api.Errno) { return lay.Write(w.l, 2, 0, sown(1, 1000)) },
		func() (int, api.Errno) { return lay.Write(w.l, 2, 8191, sown(1, 5)) },
		func() (int, api.Errno) { return lay.Write(w.l, 2, 0, sown(1, 20000)) },
		func() (int, api.Errno) { return 0, lay.Piece(w.l, 2, 0, sown(1, 8192)) },
		func() (int, api.Errno) { return 0, lay.Piece(w.l, 3, 1024, sown(1, 3000)) },
		func() (int, api.Errno) { return lay.Write(w.l, 3, 1024, sown(1, 3000)) },
	} {
		call()
		if w.l.Open() {
			t.Fatalf("a step is open")
		}
		ok(t, w.l.Begin(1), w.l.End())
	}
}

// roomCases are writes of some bytes to a file some of whose indices are mapped.
var roomCases = []struct {
	name    string
	indices []int
	at, n   int
}{
	{"a block", nil, 5, 10},
	{"a piece", nil, 0, 8192},
	{"two pieces", nil, 8000, 400},
	{"pieces about the single index block", nil, 7 * 1024, 5 * 1024},
	{"an index block more", nil, 10 * 1024, 1},
	{"a later piece's index block", nil, 0, 16384 + 1024},
	{"two index blocks more", nil, 266 * 1024, 100},
	{"an index block for a later piece alone", []int{0, 1, 2, 3, 4, 5, 6, 7, 8, 9}, 0, 11 * 1024},
	{"another below the double one", []int{266, 521}, 521 * 1024, 2048},
	{"all kinds of index blocks", nil, 264 * 1024, 8192},
	{"pieces about all of them", nil, 262 * 1024, 20000},
	{"one hole among mapped ones", []int{0, 1, 3, 4, 5, 6, 7, 8}, 0, 9 * 1024},
	{"nothing new", []int{0, 1, 2, 10}, 10, 3000},
	{"nothing new, then a hole", []int{0, 1, 2, 3, 4, 5, 6, 7}, 0, 8193},
	{"five pieces", nil, 1, 40000},
}

// P15.2 to P15.4: with each number of free blocks from none to more than enough: ErrNoSpace of Put and Piece with one too few, and how far Write comes. What is refused changes nothing, and no step is begun: a group that a step would have committed is not.
func TestNoSpace(t *testing.T) {
	for _, x := range roomCases {
		begin := made(t, snug(t)).own(2, x.indices...)
		need, err := begin.need(2, x.at/1024, (x.at+x.n-1)/1024)
		ok(t, err)
		for free := range need + 3 {
			p := sown(free, x.n)
			left := begin.copied().leave(free)
			w := newWorld(t, left)
			// As many blocks as have the next step commit them.
			w.do(t, beginning(31))
			for i := range 9 {
				w.do(t, changing(50+i, mark(i)))
			}
			w.do(t, ending())
			was := w.still()
			w.do(t, piecing(2, x.at, p))
			if free < need {
				w.stays(t, was)
			}
			w = newWorld(t, left)
			w.do(t, writing(2, x.at, p))
			w.agree(t)
			for at := range left.now { // nobody's blocks are as they were
				if left.data(at) && left.bit(at) && !slices.Contains(left.owned(2), at) && w.a.now[at] != left.now[at] {
					t.Fatalf("%s, %d free: block %d has changed", x.name, free, at)
				}
			}
			w = newWorld(t, left)
			w.do(t, beginning(31))
			was = w.still()
			w.do(t, putting(2, x.at, p))
			if free < need {
				w.stays(t, was)
			}
			w.agree(t)
		}
	}
}

// P15.4: how far Write comes, told by itself: what was written is whole pieces, the size has them, and the rest is as it was.
func TestCutShort(t *testing.T) {
	for free := range 30 {
		w := newWorld(t, made(t, ten(t)).leave(free))
		p := sown(free, 30000)
		n, err := lay.Write(w.l, 3, 4096, p)
		want, e := 0, api.ErrNoSpace
		for _, x := range []struct{ blocks, bytes int }{{4, 4096}, {4 + 9, 12288}, {4 + 9 + 8, 20480}, {4 + 9 + 8 + 8, 28672}} {
			if free >= x.blocks {
				want, e = x.bytes, api.OK
			}
		}
		if n != want || err != e {
			t.Fatalf("%d are free: %d, %d, not %d, %d", free, n, err, want, e)
		}
		size, last := 5, -1
		if n > 0 {
			size, last = 4096+n, (4096+n)/1024-1
			w.reads(t, 3, 0, append(make([]byte, 4096), p[:n]...))
		}
		x, err := rack.Read(w.l, 3)
		index, e := chart.Last(w.l, 3, 0)
		if int(x.Size) != size || index != last || err != api.OK || e != api.OK {
			t.Fatalf("%d are free: the size is %d, the last index %d; %d, %d", free, x.Size, index, err, e)
		}
	}
}

// P15.4: all written, though nothing is left behind that; and from then on what is mapped may be written, and no more.
func TestLastBlock(t *testing.T) {
	w := newWorld(t, made(t, ten(t)).leave(9))
	w.do(t, writing(2, 0, sown(1, 8192)), writing(2, 8192, sown(2, 5)))
	if n, err := room.Free(w.l); n != 0 || err != api.OK {
		t.Fatalf("%d are left, %d", n, err)
	}
	w.do(t, writing(2, 0, sown(3, 9216)), writing(2, 9215, sown(4, 2)), writing(2, 9216, sown(5, 1)), piecing(2, 8192, sown(6, 1024)), piecing(2, 9000, sown(6, 1000)))
	w.do(t, step(31, putting(2, 3000, sown(7, 6216)), putting(2, 3000, sown(8, 6217))))
	if size := w.a.node(2).Size; size != 9216 {
		t.Errorf("the size is %d", size)
	}
	w.agree(t)
	w.reads(t, 2, 3000, sown(7, 6216))
}

// P15.2: ErrTight of a step that may change too few blocks, each number of them from one on: what was written ahead of that stays, and nothing else; the step goes on, and with enough it is done.
func TestTight(t *testing.T) {
	for _, x := range roomCases {
		begin := made(t, snug(t)).own(2, x.indices...)
		for r := 1; r <= 31; r++ {
			for _, others := range []int{0, 1, 2} { // blocks that the step has changed already, the last of them one that Put wants to change too
				w := newWorld(t, begin)
				w.do(t, beginning(r))
				for i := range min(others, r) {
					at := []int{90, 33}[i]
					w.do(t, changing(at, w.a.now[at]))
				}
				w.do(t, putting(2, x.at, sown(r, x.n)))
				w.agree(t)
				w.do(t, putting(2, x.at, sown(r, 1)), putting(3, 0, sown(5, 2)))
				w.agree(t)
				w.do(t, ending(), syncing())
				w.onDisk(t)
			}
		}
	}
}

// P15.2: what stays of a Put that was ErrTight, told by itself.
func TestTightStays(t *testing.T) {
	w := newWorld(t, made(t, ten(t)).own(2, 0, 1, 2, 3))
	p := sown(1, 4096)
	ok(t, w.l.Begin(2))
	if err := lay.Put(w.l, 2, 0, p); err != api.ErrTight {
		t.Fatalf("four blocks in a step of two: %d", err)
	}
	w.reads(t, 2, 0, slices.Concat(p[:2048], w.a.read(2, 2048, 2048)))
	ok(t, w.l.End())

	w = newWorld(t, made(t, ten(t)))
	ok(t, w.l.Begin(4)) // the bitmap, a block, the inode, a block
	if err := lay.Put(w.l, 2, 0, p); err != api.ErrTight {
		t.Fatalf("four new blocks in a step of four: %d", err)
	}
	for index, want := range []int{39, 40, 0, 0} {
		if at, err := chart.At(w.l, 2, index); at != want || err != api.OK {
			t.Errorf("the index %d is at %d, %d", index, at, err)
		}
	}
	for i, at := range []int{39, 40} {
		if b, err := w.l.Read(at); b != api.Block(p[1024*i:1024*(i+1)]) || err != api.OK {
			t.Errorf("block %d has not been written, %d", at, err)
		}
	}
	if n, err := room.Free(w.l); n != 359 || err != api.OK {
		t.Errorf("%d are free, %d", n, err)
	}
	if p, err := w.l.Read(33); err != api.OK || told(p[128:]).Size != 0 || told(p[128:]).Blocks != 2 {
		t.Errorf("the inode is %v, %d", told(p[128:]), err)
	}
	ok(t, w.l.End())

	a := made(t, ten(t)).own(2, 0)
	n := a.node(2)
	n.Size = 10
	a.has(2, n)
	w = newWorld(t, a)
	ok(t, w.l.Begin(1))
	if err := lay.Put(w.l, 2, 5, p[:10]); err != api.ErrTight { // the block, but not the size
		t.Fatalf("a size in a step of one: %d", err)
	}
	if b, err := w.l.Read(399); err != api.OK || !slices.Equal(b[5:15], p[:10]) {
		t.Errorf("the block has not been written, %d", err)
	}
}
