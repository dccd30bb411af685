package chart_test

import (
	"math"
	"math/rand"
	"slices"
	"testing"

	"undercroft/api"
	"undercroft/chart"
	"undercroft/disk"
	"undercroft/rack"
	"undercroft/room"
	"undercroft/wal"
)

// The answers that a call is asked for.

func at(t testing.TB, l *wal.Log, inum, index, want int, e api.Errno) {
	t.Helper()
	if n, err := chart.At(l, inum, index); n != want || err != e {
		t.Errorf("At(%d, %d): %d, %d, not %d, %d", inum, index, n, err, want, e)
	}
}

func need(t testing.TB, l *wal.Log, inum, first, count, want int, e api.Errno) {
	t.Helper()
	if n, err := chart.Need(l, inum, first, count); n != want || err != e {
		t.Errorf("Need(%d, %d, %d): %d, %d, not %d, %d", inum, first, count, n, err, want, e)
	}
}

func mapIt(t testing.TB, l *wal.Log, inum, index, want int, e api.Errno) {
	t.Helper()
	if n, err := chart.Map(l, inum, index); n != want || err != e {
		t.Errorf("Map(%d, %d): %d, %d, not %d, %d", inum, index, n, err, want, e)
	}
}

func last(t testing.TB, l *wal.Log, inum, from, want int, e api.Errno) {
	t.Helper()
	if n, err := chart.Last(l, inum, from); n != want || err != e {
		t.Errorf("Last(%d, %d): %d, %d, not %d, %d", inum, from, n, err, want, e)
	}
}

func drop(t testing.TB, l *wal.Log, inum, first, count, want int, e api.Errno) {
	t.Helper()
	if n, err := chart.Drop(l, inum, first, count); n != want || err != e {
		t.Errorf("Drop(%d, %d, %d): %d, %d, not %d, %d", inum, first, count, n, err, want, e)
	}
}

func all(t testing.TB, l *wal.Log, inum int, want ...pair) {
	t.Helper()
	if got := listed(l, inum); !slices.Equal(got, want) {
		t.Errorf("All(%d): %v, not %v", inum, got, want)
	}
}

func free(t testing.TB, l *wal.Log, want int) {
	t.Helper()
	if n, err := room.Free(l); n != want || err != api.OK {
		t.Errorf("%d blocks are free, %d, not %d", n, err, want)
	}
}

// edges are the indices at both ends of what stands in the inode, below the single index block, and below some of those below the double one.
var edges = []int{0, 1, 9, 10, 11, 265, 266, 267, 521, 522, 777, 778, 33000, 65545, 65546, 65800, 65801}

// beyond are no indices, however few of their bits are looked at.
var beyond = slices.DeleteFunc([]int{
	math.MinInt, math.MinInt + 1, -1 << 31, -65802, -65536, -266, -256, -10, -2, -1,
	65802, 65803, 65546 + 256, 1 << 17, 1<<24 + 5, math.MaxInt32 - 1, math.MaxInt32, far(0), far(5), far(300), math.MaxInt - 65802, math.MaxInt - 1, math.MaxInt,
}, func(n int) bool { return n >= 0 && n < 65802 })

// far is like n in its lower 32 bits; it is n itself where an int has no others.
func far(n int) int { return int(int64(n) + 1<<32) }

// Chapter 12's examples, call by call.
func TestExamples(t *testing.T) {
	l := newWorld(t, made(t, ten(t))).l
	ok(t, l.Begin(31))
	at(t, l, 2, 0, 0, api.OK)
	need(t, l, 2, 0, 3, 3, api.OK)
	need(t, l, 2, 264, 4, 7, api.OK)
	mapIt(t, l, 2, 3, 39, api.OK)
	mapIt(t, l, 2, 3, 39, api.OK)
	mapIt(t, l, 2, 10, 41, api.OK)
	mapIt(t, l, 2, 266, 44, api.OK)
	last(t, l, 2, 0, 266, api.OK)
	last(t, l, 2, 11, 266, api.OK)
	last(t, l, 2, 267, -1, api.OK)
	all(t, l, 2, pair{3, 39}, pair{10, 41}, pair{266, 44})
	n, err := rack.Read(l, 2)
	if n != (api.Node{Kind: api.KindFile, Links: 1, Size: 5, Blocks: 6, Direct: [10]uint32{3: 39}, Single: 40, Double: 42}) || err != api.OK {
		t.Errorf("the inode is %v, %d", n, err)
	}
	drop(t, l, 2, 4, 100, 2, api.OK)
	free(t, l, 361-4)
	drop(t, l, 2, 0, 65802, 4, api.OK)
	at(t, l, 2, 3, 0, api.OK)
	free(t, l, 361)
	at(t, l, 2, 65802, 0, api.ErrArg)
	at(t, l, 2, -1, 0, api.ErrArg)
	need(t, l, 2, 65802, 1, 0, api.ErrArg)
	need(t, l, 2, 65802, 0, 0, api.OK)
	drop(t, l, 2, 1, -1, 0, api.ErrArg)
}

// The blocks of a file of the examples, byte by byte.
func TestBytes(t *testing.T) {
	l := newWorld(t, made(t, ten(t))).l
	ok(t, l.Begin(31))
	for _, index := range []int{3, 10, 265, 266, 777, 65801} {
		_, err := chart.Map(l, 2, index)
		ok(t, err)
	}
	var single, double, first, second, final api.Block
	single[0], single[1020] = 41, 42                // of 10 and 265
	double[0], double[4], double[1020] = 44, 46, 48 // 266 to 521, 522 to 777, 65546 to 65801
	first[0] = 45
	second[1020] = 47
	final[1020] = 49
	for at, want := range map[int]api.Block{39: {}, 40: single, 41: {}, 42: {}, 43: double, 44: first, 45: {}, 46: second, 47: {}, 48: final, 49: {}, 50: mark(50)} {
		if b, err := l.Read(at); b != want || err != api.OK {
			t.Errorf("block %d is %v, %d", at, b, err)
		}
	}
	nodes, err := l.Read(33)
	want := []byte{1, 0, 1, 0, 5, 0, 0, 0, 11, 0, 0, 0, 0, 0, 0, 0, 0, 0, 0, 0, 0, 0, 0, 0, 39, 0, 0, 0, 0, 0, 0, 0, 0, 0, 0, 0, 0, 0, 0, 0, 0, 0, 0, 0, 0, 0, 0, 0, 0, 0, 0, 0, 40, 0, 0, 0, 43, 0, 0, 0, 0, 0, 0, 0}
	if !slices.Equal(nodes[128:192], want) || err != api.OK {
		t.Errorf("the inode is %v, %d", nodes[128:192], err)
	}
}

// Numbers of four bytes in index blocks, the lowest byte first: a disk of as many blocks as there may be.
func TestGreatNumbers(t *testing.T) {
	where := layout(t, 1<<20-2, 32, 16)
	a := made(t, where).own(2, falling(0xabcdf), 4, 10, 300)
	w := newWorld(t, a)
	all(t, w.l, 2, pair{4, 0xabcdf}, pair{10, 0xabcdd}, pair{300, 0xabcda})
	single, err := w.l.Read(0xabcde)
	if !slices.Equal(single[:8], []byte{0xdd, 0xbc, 0x0a, 0, 0, 0, 0, 0}) || err != api.OK {
		t.Fatalf("the single index block begins with %v", single[:8])
	}
	w.do(t, beginning(9), finding(2, 4), finding(2, 10), finding(2, 300), finding(2, 299), dropping(2, 9, 500))
	n, err := rack.Read(w.l, 2)
	if n != (api.Node{Kind: api.KindFile, Links: 1, Size: 5, Blocks: 1, Direct: [10]uint32{4: 0xabcdf}}) || err != api.OK {
		t.Errorf("the inode is %v, %d", n, err)
	}
}

// The numbers of the errors.
func TestErrorNumbers(t *testing.T) {
	is := func(name string, call func(l *wal.Log, inum, index int) (int, api.Errno), l *wal.Log, inum, index, want int) {
		t.Helper()
		if n, err := call(l, inum, index); int(err) != want || err != api.OK && n != 0 {
			t.Errorf("%s is %d, not %d; %d", name, int(err), want, n)
		}
	}
	a := made(t, small(t)).own(2, rising(37), 0, 1, 2, 3)
	a.has(3, api.Node{Kind: api.KindFile, Direct: [10]uint32{35}})
	w := newWorld(t, a)
	is("ErrNil", chart.Map, nil, 2, 0, 1)
	is("ErrStep", chart.Map, w.l, 2, 0, 180)
	w.do(t, beginning(1))
	is("ErrArg", chart.Map, w.l, 2, -1, 2)
	is("ErrInval", chart.Map, w.l, 3, 0, 4)
	is("OK", chart.Map, w.l, 2, 0, 0)
	is("ErrNoSpace", chart.Map, w.l, 2, 266, 16)
	is("ErrTight", chart.Map, w.l, 2, 10, 181)
	w.d.Crash(nil)
	is("ErrDead", chart.Map, w.l, 2, 0, 3)
	is("ErrDead", chart.At, w.l, 2, 0, 3)
	is("ErrDead", chart.Last, w.l, 2, 0, 3)
}

// refusesAll asks all calls, with arguments that would be refused else and with others.
func refusesAll(t testing.TB, l *wal.Log, e api.Errno) {
	t.Helper()
	numbers := []int{0, 3, 10, 300, 65801, 65802, -1, math.MinInt, math.MaxInt}
	for _, inum := range []int{1, 2, 3, 16, 17, 0, -1, 61, math.MinInt, math.MaxInt} {
		all(t, l, inum)
		for _, n := range numbers {
			at(t, l, inum, n, 0, e)
			mapIt(t, l, inum, n, 0, e)
			last(t, l, inum, n, 0, e)
			for _, count := range numbers {
				need(t, l, inum, n, count, 0, e)
				drop(t, l, inum, n, count, 0, e)
			}
		}
	}
}

// P12.1: logs that are nil or that nobody made, in whichever way.
func TestNoLog(t *testing.T) {
	refusesAll(t, nil, api.ErrNil)
	refusesAll(t, &wal.Log{}, api.ErrNil)
	w := newWorld(t, made(t, ten(t)).own(2, rising(39), 0, 10, 266))
	w.do(t, beginning(9))
	copied := *w.l
	refusesAll(t, &copied, api.ErrNil)
	w.do(t, mapping(2, 1), dropping(2, 0, 20))
	w.agree(t, 1, 2)
}

// P12.1: a log that is closed, also where its disk has stopped or is claimed anew.
func TestClosedLog(t *testing.T) {
	for _, then := range []func(d *disk.Disk){
		func(d *disk.Disk) {},
		func(d *disk.Disk) { d.Fuse(0); d.Barrier() },
		func(d *disk.Disk) { d.Claim() },
		func(d *disk.Disk) { d.Crash(nil) },
	} {
		w := newWorld(t, made(t, ten(t)))
		w.do(t, step(9, mapping(2, 266), mapping(2, 0)))
		ok(t, w.l.Close())
		then(w.d)
		refusesAll(t, w.l, api.ErrNil)
	}
}

// P12.1: a log that is dead, with a step open and without: ErrDead is ahead of all others.
func TestDeadLog(t *testing.T) {
	bad := made(t, ten(t))
	bad.has(2, api.Node{Kind: api.KindFile, Direct: [10]uint32{1, 2, 3}, Single: 37, Double: 400})
	full := made(t, small(t)).own(2, rising(37), 0, 1, 2, 3, 4, 5)
	ways := map[string]func(t *testing.T, w *world){
		"stopped":      func(t *testing.T, w *world) { w.d.Fuse(0); w.d.Barrier() },
		"claimed":      func(t *testing.T, w *world) { w.d.Claim() },
		"another log":  func(t *testing.T, w *world) { newLog(t, w.d, w.a.where) },
		"power":        func(t *testing.T, w *world) { w.d.Crash(nil) },
		"power, again": func(t *testing.T, w *world) { w.d.Crash(nil); newLog(t, w.d, w.a.where) },
		"stopped, power": func(t *testing.T, w *world) {
			w.d.Fuse(0)
			w.d.Write(40, mark(1))
			w.d.Crash([]bool{true})
		},
	}
	for name, die := range ways {
		for _, a := range []*account{made(t, ten(t)).own(2, rising(39), 3, 10, 266), bad, full} {
			for _, open := range []bool{false, true} {
				w := newWorld(t, a)
				if open {
					w.do(t, beginning(1), writing(40, mark(1)))
				}
				die(t, w)
				made := w.d.Made()
				refusesAll(t, w.l, api.ErrDead)
				if w.d.Made() != made {
					t.Errorf("%s: %d things were done to the disk", name, w.d.Made()-made)
				}
			}
		}
	}
}

// P12.1: no step is open: before the first one, behind one, behind a commit; whatever the arguments. At, Need, Last and All want none.
func TestNoStep(t *testing.T) {
	w := newWorld(t, made(t, ten(t)).own(2, rising(39), 3, 10, 266))
	refused := func() {
		t.Helper()
		for _, inum := range []int{1, 2, 3, 60, 0, 61, -1, math.MaxInt} {
			for _, n := range slices.Concat(edges, beyond) {
				mapIt(t, w.l, inum, n, 0, api.ErrStep)
				for _, count := range []int{0, 1, 65802, -1, math.MaxInt} {
					drop(t, w.l, inum, n, count, 0, api.ErrStep)
				}
			}
		}
		w.do(t, finding(2, 3), finding(2, 266), needing(2, 0, 800), lasting(2, 0))
		w.agree(t, 1, 2, 3, 60)
	}
	refused()
	w.do(t, step(1))
	refused()
	w.do(t, step(9, mapping(2, 300), dropping(2, 0, 5)))
	refused()
	w.do(t, syncing())
	refused()
	w.onDisk(t)
}

// P12.1: numbers that no inode has, with indices and spans that are none and with others: ErrArg, and All goes over nothing.
func TestNoInode(t *testing.T) {
	for _, inodes := range []int{1, 15, 16, 60} {
		where := layout(t, 400, 32, inodes)
		a := made(t, where)
		for i := range 16 * where.NodeBlocks { // the places that are no inode's hold one too
			a.has(i, api.Node{Kind: api.KindFile, Blocks: 1, Direct: [10]uint32{50}})
		}
		w := newWorld(t, a)
		w.do(t, beginning(9))
		none := []int{math.MinInt, -65536, -64, -17, -16, -1, 0, inodes + 1, inodes + 2, inodes + 16, 1 << 16, 1<<16 + 1, far(1), math.MaxInt}
		for _, inum := range slices.DeleteFunc(none, func(inum int) bool { return inum == 1 }) {
			all(t, w.l, inum)
			for _, n := range slices.Concat([]int{0, 300}, beyond) {
				at(t, w.l, inum, n, 0, api.ErrArg)
				mapIt(t, w.l, inum, n, 0, api.ErrArg)
				last(t, w.l, inum, n, 0, api.ErrArg)
				need(t, w.l, inum, n, 1, 0, api.ErrArg)
				drop(t, w.l, inum, n, 1, 0, api.ErrArg)
			}
		}
		for _, inum := range []int{1, inodes} {
			all(t, w.l, inum, pair{0, 50})
			at(t, w.l, inum, 0, 50, api.OK)
		}
		w.agree(t)
		w.commits(t)
	}
}

// P12.1: indices that are none, for At, Map, Last, and as the beginning or the length of a span.
func TestNoIndex(t *testing.T) {
	for _, a := range []*account{made(t, ten(t)), made(t, ten(t)).own(2, rising(39), 0, 9, 10, 265, 266, 521, 522, 65801)} {
		w := newWorld(t, a)
		w.do(t, beginning(9))
		for _, n := range beyond {
			at(t, w.l, 2, n, 0, api.ErrArg)
			mapIt(t, w.l, 2, n, 0, api.ErrArg)
			if n < 0 {
				last(t, w.l, 2, n, 0, api.ErrArg)
			} else {
				last(t, w.l, 2, n, -1, api.OK)
			}
			for _, m := range slices.Concat(edges, beyond) {
				if n == 65802 && m == 0 {
					continue
				}
				need(t, w.l, 2, n, m, 0, api.ErrArg)
				drop(t, w.l, 2, n, m, 0, api.ErrArg)
			}
			for _, m := range edges {
				if n == 65802 && m == 0 {
					continue
				}
				need(t, w.l, 2, m, n, 0, api.ErrArg)
				drop(t, w.l, 2, m, n, 0, api.ErrArg)
			}
		}
		for _, first := range edges {
			need(t, w.l, 2, first, 65803-first, 0, api.ErrArg)
			drop(t, w.l, 2, first, 65803-first, 0, api.ErrArg)
			need(t, w.l, 2, first, math.MaxInt-first, 0, api.ErrArg)
			drop(t, w.l, 2, first, math.MaxInt-first+1-min(1, first), 0, api.ErrArg)
		}
		need(t, w.l, 2, 65802, 0, 0, api.OK)
		drop(t, w.l, 2, 65802, 0, 0, api.OK)
		w.agree(t, 2)
		w.commits(t)
	}
}

// P12.1: where several errors would do, the first that the chapter names is told: of the step and of the inode ahead of the arguments (TestNoStep, TestNoInode), ErrArg ahead of ErrInval, that ahead of ErrNoSpace and ErrTight, ErrNoSpace ahead of ErrTight.
func TestOrderOfErrors(t *testing.T) {
	a := made(t, small(t)).own(2, rising(37), 0, 1, 2, 3, 4, 5)
	a.has(3, api.Node{Kind: api.KindFile, Blocks: 9, Direct: [10]uint32{35}, Single: 1, Double: 43})
	w := newWorld(t, a)
	w.do(t, beginning(1), writing(40, mark(1)))
	for _, index := range []int{0, 10, 266} {
		at(t, w.l, 3, index, 0, api.ErrInval)
		mapIt(t, w.l, 3, index, 0, api.ErrInval)
		need(t, w.l, 3, index, 1, 0, api.ErrInval)
		drop(t, w.l, 3, index, 1, 0, api.ErrInval)
		last(t, w.l, 3, index, 0, api.ErrInval)
	}
	all(t, w.l, 3)
	at(t, w.l, 3, 65802, 0, api.ErrArg)
	mapIt(t, w.l, 3, -1, 0, api.ErrArg)
	need(t, w.l, 3, 0, 65803, 0, api.ErrArg)
	drop(t, w.l, 3, 0, math.MaxInt, 0, api.ErrArg)
	last(t, w.l, 3, -1, 0, api.ErrArg)
	for _, index := range []int{6, 10, 266} {
		mapIt(t, w.l, 2, index, 0, api.ErrNoSpace)
	}
	mapIt(t, w.l, 2, 3, 40, api.OK)
	drop(t, w.l, 2, 3, 1, 0, api.ErrTight)
	w.agree(t, 1, 2)
	w.commits(t, 40)
}

// states are files of inode 2, some with index blocks and some without, with numbers that rise and that fall.
func states(t testing.TB, where api.Layout) []*account {
	t.Helper()
	sets := [][]int{
		nil, {0}, {9}, {10}, {265}, {266}, {521}, {522}, {65801}, {0, 1, 2, 3, 4, 5, 6, 7, 8, 9},
		{11, 264}, {267, 520}, {778}, {10, 266}, {266, 522, 65801}, {3, 10, 265, 266, 521, 522, 777, 65801}, {5, 100, 33000},
	}
	var out []*account
	for i, indices := range sets {
		pick := rising(where.DataAt + 1)
		if i%2 == 1 {
			pick = falling(where.DataAt + 30)
		}
		out = append(out, made(t, where).own(2, pick, indices...))
	}
	return out
}

// P12.2, P12.7, P12.8: At of each index at an edge, mapped or not, and All.
func TestAt(t *testing.T) {
	for _, a := range states(t, ten(t)) {
		w := newWorld(t, a)
		mapped := a.all(2)
		for _, index := range edges {
			want := 0
			for _, p := range mapped {
				if p.index == index {
					want = p.at
				}
			}
			at(t, w.l, 2, index, want, api.OK)
			w.do(t, finding(2, index), finding(1, index), finding(3, index))
		}
		all(t, w.l, 2, mapped...)
		w.agree(t, 1, 2, 3)
	}
}

// P12.3: spans of all kinds: whose ends are edges, or just beside these, and empty ones.
func TestNeed(t *testing.T) {
	var ends []int
	for _, n := range edges {
		ends = append(ends, n, n+1)
	}
	slices.Sort(ends)
	ends = slices.Compact(ends)
	for _, a := range states(t, ten(t)) {
		w := newWorld(t, a)
		for i, first := range ends {
			need(t, w.l, 2, first, 0, 0, api.OK)
			for _, end := range ends[i:] {
				w.do(t, needing(2, first, end-first))
			}
		}
		w.agree(t, 2)
		if w.l.Used() != 0 {
			t.Errorf("%d blocks changed", w.l.Used())
		}
	}
}

// P12.3: what is needed of a file without blocks, in numbers.
func TestNeedNew(t *testing.T) {
	l := newWorld(t, made(t, ten(t))).l
	for _, c := range []struct{ first, count, want int }{
		{0, 0, 0}, {20, 0, 0}, {300, 0, 0}, {65802, 0, 0}, {0, 1, 1}, {0, 10, 10}, {0, 11, 12}, {9, 1, 1}, {9, 2, 3}, {10, 1, 2}, {10, 256, 257}, {265, 1, 2},
		{265, 2, 5}, {266, 1, 3}, {266, 256, 258}, {266, 257, 260}, {521, 1, 3}, {521, 2, 5}, {522, 1, 3}, {522, 512, 515}, {523, 512, 516}, {65801, 1, 3},
		{65545, 2, 5}, {266, 65536, 65536 + 257}, {10, 65792, 65792 + 258}, {0, 65802, 65802 + 258},
	} {
		need(t, l, 2, c.first, c.count, c.want, api.OK)
	}
}

// P12.5: Last from each edge, and from just beside it.
func TestLast(t *testing.T) {
	for _, a := range states(t, ten(t)) {
		w := newWorld(t, a)
		for _, from := range edges {
			w.do(t, lasting(2, from), lasting(2, from+1), lasting(1, from), lasting(3, from))
		}
		w.do(t, lasting(2, 65802), lasting(2, math.MaxInt32), lasting(2, math.MaxInt))
	}
	l := newWorld(t, made(t, ten(t)).own(2, rising(39), 3, 200, 266, 700)).l
	for from, want := range map[int]int{0: 700, 3: 700, 266: 700, 700: 700, 701: -1, 65801: -1} {
		last(t, l, 2, from, want, api.OK)
	}
	last(t, l, 1, 0, 0, api.OK)
	last(t, l, 1, 1, -1, api.OK)
	last(t, l, 3, 0, -1, api.OK)
}

// order is which blocks a call changes, in the order in which each is changed first.
func order(t testing.TB, a *account, do act) []int {
	t.Helper()
	w := newWorld(t, a)
	w.do(t, beginning(31), do)
	w.agree(t, 1, 2)
	if !slices.Equal(w.a.step, w.a.group) {
		t.Fatalf("%v, %v", w.a.step, w.a.group)
	}
	w.commits(t, w.a.group...)
	return w.a.step
}

// P12.4: what Map takes and writes, and in which order, where all, some and none of the index blocks are there.
func TestMapOrder(t *testing.T) {
	for _, c := range []struct {
		there []int
		index int
		at    int
		group []int
	}{
		{nil, 0, 39, []int{37, 39, 33}},
		{nil, 9, 39, []int{37, 39, 33}},
		{nil, 10, 40, []int{37, 39, 40, 33}},
		{nil, 265, 40, []int{37, 39, 40, 33}},
		{[]int{11}, 10, 41, []int{37, 41, 39, 33}},
		{[]int{11, 9}, 265, 42, []int{37, 42, 39, 33}},
		{nil, 266, 41, []int{37, 39, 40, 41, 33}},
		{nil, 65801, 41, []int{37, 39, 40, 41, 33}},
		{[]int{267}, 266, 42, []int{37, 42, 40, 33}},
		{[]int{267}, 521, 42, []int{37, 42, 40, 33}},
		{[]int{267}, 522, 43, []int{37, 42, 39, 43, 33}},
		{[]int{0, 267}, 65801, 44, []int{37, 43, 40, 44, 33}},
		{[]int{267, 65800}, 65801, 44, []int{37, 44, 42, 33}},
		{[]int{10}, 266, 43, []int{37, 41, 42, 43, 33}},
		{[]int{3}, 3, 39, nil},
		{[]int{10}, 10, 40, nil},
		{[]int{300}, 300, 41, nil},
	} {
		a := made(t, ten(t)).own(2, rising(39), c.there...)
		mapIt(t, inStep(t, a), 2, c.index, c.at, api.OK)
		if got := order(t, a, mapping(2, c.index)); !slices.Equal(got, c.group) {
			t.Errorf("%v, then Map of %d: the blocks %v, not %v", c.there, c.index, got, c.group)
		}
	}
}

// inStep is a log in which a step is open.
func inStep(t testing.TB, a *account) *wal.Log {
	t.Helper()
	l := newWorld(t, a).l
	ok(t, l.Begin(31))
	return l
}

// P12.4, P12.8: Map of each edge, on files of all kinds: what Need said is taken, all other indices and inodes stay, Blocks goes up; Map of what is mapped writes nothing.
func TestMap(t *testing.T) {
	for _, a := range states(t, ten(t)) {
		for _, index := range edges {
			w := newWorld(t, a)
			others := a.all(2)
			needed, err := chart.Need(w.l, 2, index, 1)
			ok(t, err)
			before := w.a.free()
			w.do(t, beginning(9), mapping(2, index))
			w.agree(t, 1, 2, 3)
			w.kept(t, 2, w.a.where.DataAt)
			free(t, w.l, before-needed)
			need(t, w.l, 2, index, 1, 0, api.OK)
			for _, p := range others {
				at(t, w.l, 2, p.index, p.at, api.OK)
			}
			if n := w.a.node(2); n.Kind != api.KindFile || n.Links != 1 || n.Size != 5 {
				t.Fatalf("the inode is %v", n)
			}
			changed := slices.Clone(w.a.group)
			w.do(t, mapping(2, index), finding(2, index))
			w.commits(t, changed...)
		}
	}
}

// P12.4: a step in which nothing may be changed any more may still Map what is mapped.
func TestMapMapped(t *testing.T) {
	w := newWorld(t, made(t, ten(t)).own(2, falling(80), 0, 9, 10, 265, 266, 521, 522, 65801))
	w.do(t, beginning(1), writing(390, mark(1)))
	for _, p := range w.a.all(2) {
		mapIt(t, w.l, 2, p.index, p.at, api.OK)
		w.do(t, mapping(2, p.index))
	}
	w.commits(t, 390)
}

// P12.4: the least free blocks are taken, wherever these lie: between those that are used, and in several blocks of the bitmap.
func TestMapTakesLeast(t *testing.T) {
	where := wide(t)
	a := made(t, where)
	for at := range 8192 {
		a.use(at)
	}
	b := a.now[where.BitsAt]
	b[100/8] &^= 1 << (100 % 8)
	b[1023] &^= 1 << 7 // 8191
	a.now[where.BitsAt] = b
	for at := 8192; at < 16384; at++ {
		if at != 9000 {
			a.use(at)
		}
	}
	l := inStep(t, a)
	mapIt(t, l, 2, 600, 9000, api.OK)
	mapIt(t, l, 2, 12, 16385, api.OK)
	mapIt(t, l, 2, 601, 16386, api.OK)
	n, err := rack.Read(l, 2)
	if n.Double != 100 || n.Single != 16384 || n.Blocks != 6 || err != api.OK {
		t.Errorf("the inode is %v, %d", n, err)
	}
	if got := order(t, a, mapping(2, 600)); !slices.Equal(got, []int{35, 100, 8191, 36, 9000, 33}) {
		t.Errorf("the blocks %v", got)
	}
	drop(t, l, 2, 600, 1, 1, api.OK)
	drop(t, l, 2, 0, 65802, 5, api.OK)
	free(t, l, 3+20000-16384)
}

// P12.4: ErrNoSpace with one block fewer than is needed, and that nothing has changed then; OK with just as many.
func TestNoSpace(t *testing.T) {
	for _, a := range states(t, ten(t)) {
		for _, index := range edges {
			needed, _ := a.need(2, index, 1)
			for left := range needed + 2 {
				full := &account{where: a.where, now: map[int]api.Block{}}
				for at, b := range a.now {
					full.now[at] = b
				}
				open := left
				for at := 399; at >= 38; at-- {
					if !a.bit(at) && open > 0 {
						open--
					} else {
						full.use(at)
					}
				}
				w := newWorld(t, full)
				w.do(t, beginning(9), needing(2, index, 1), mapping(2, index))
				_, err := chart.Map(w.l, 2, index)
				if (err == api.ErrNoSpace) != (left < needed) || err != api.OK && w.l.Used() != 0 {
					t.Fatalf("%d are free, %d are needed: %d, %d blocks changed", left, needed, err, w.l.Used())
				}
				w.agree(t, 1, 2)
			}
		}
	}
}

// P12.4, P12.8: a disk is filled by Map, index by index, and is emptied by Drop.
func TestFill(t *testing.T) {
	for _, first := range []int{0, 5, 260, 520, 65480} {
		w := newWorld(t, made(t, ten(t)))
		for index := first; w.a.free() > 0 && index < 65802; index++ {
			w.do(t, step(9, mapping(2, index)))
		}
		w.agree(t, 2)
		w.kept(t, 2, 38)
		w.do(t, beginning(3), dropping(2, 0, 65802))
		free(t, w.l, 361)
		all(t, w.l, 2)
		w.agree(t, 1, 2)
		if n := w.a.node(2); n != (api.Node{Kind: api.KindFile, Links: 1, Size: 5}) {
			t.Errorf("the inode is %v", n)
		}
	}
}

// tightly makes a call in steps of each reservation, where the step has changed nothing yet, or one of the blocks that the call changes, or another one: behind it all blocks are what the account has, in the order in which the account has changed them.
func tightly(t *testing.T, a *account, name string, do act) {
	t.Helper()
	whole := order(t, a, do)
	for _, already := range append([]int{0, 390}, whole...) {
		for r := 1; r <= len(whole)+2; r++ {
			w := newWorld(t, a)
			w.do(t, beginning(r))
			if already != 0 {
				w.do(t, writing(already, w.a.now[already]))
			}
			w.do(t, do)
			fits := len(whole)
			if already == 390 {
				fits++
			}
			if done := r >= fits; done != (len(w.a.step) == fits) {
				t.Fatalf("%s, %d, behind %d: changed %v", name, r, already, w.a.step)
			}
			w.agree(t, 2)
			w.wrote(t, w.a.group...)
		}
	}
}

// P12.4: ErrTight of Map at each reservation, and what was written ahead of it.
func TestMapTight(t *testing.T) {
	for i, a := range states(t, ten(t)) {
		for _, index := range []int{0, 10, 266, 520, 65801} {
			if at, _ := a.at(2, index); at == 0 && (i < 8 || index > 500) {
				tightly(t, a, "Map", mapping(2, index))
			}
		}
	}
}

// P12.4: what stands behind each ErrTight of Map of a new file, in numbers.
func TestMapTightNew(t *testing.T) {
	for r, want := range [][]int{1: {37}, 2: {37, 39}, 3: {37, 39, 40}, 4: {37, 39, 40, 41}, 5: {37, 39, 40, 41, 33}} {
		if r == 0 {
			continue
		}
		w := newWorld(t, made(t, ten(t)))
		w.do(t, beginning(r))
		if r < 5 {
			mapIt(t, w.l, 2, 700, 0, api.ErrTight)
			at(t, w.l, 2, 700, 0, api.OK)
			all(t, w.l, 2)
		} else {
			mapIt(t, w.l, 2, 700, 41, api.OK)
		}
		free(t, w.l, 361-min(r-1, 3))
		if b, _ := w.l.Read(39); r > 1 && (b[4] != []byte{2: 0, 3: 40, 4: 40, 5: 40}[r] || b[5] != 0) {
			t.Errorf("a reservation of %d: the double index block begins with %v", r, b[:8])
		}
		if b, _ := w.l.Read(40); r > 2 && b[4*(700-522)] != []byte{3: 0, 4: 41, 5: 41}[r] {
			t.Errorf("a reservation of %d: the index block below is %v", r, b)
		}
		if n, _ := rack.Read(w.l, 2); (n.Double == 39) != (r == 5) || (n.Blocks == 3) != (r == 5) {
			t.Errorf("a reservation of %d: the inode is %v", r, n)
		}
		w.a.group = want
		w.wrote(t, want...)
	}
}

// P12.6: what Drop gives back and writes, and in which order.
func TestDropOrder(t *testing.T) {
	for _, c := range []struct {
		there        []int
		first, count int
		want         int
		group        []int
		left         []pair
	}{
		{[]int{3}, 3, 1, 1, []int{37, 33}, nil},
		{[]int{3}, 4, 65798, 0, nil, []pair{{3, 39}}},
		{[]int{3}, 0, 3, 0, nil, []pair{{3, 39}}},
		{[]int{3, 9}, 0, 9, 1, []int{37, 33}, []pair{{9, 40}}},
		{[]int{10}, 10, 1, 2, []int{37, 33}, nil},
		{[]int{10}, 0, 10, 0, nil, []pair{{10, 40}}},
		{[]int{10, 11}, 10, 1, 1, []int{37, 39, 33}, []pair{{11, 41}}},
		{[]int{10, 265}, 0, 265, 1, []int{37, 39, 33}, []pair{{265, 41}}},
		{[]int{10, 265}, 11, 65791, 1, []int{37, 39, 33}, []pair{{10, 40}}},
		{[]int{265, 266}, 265, 1, 2, []int{37, 33}, []pair{{266, 43}}},
		{[]int{265, 266}, 266, 1, 3, []int{37, 33}, []pair{{265, 40}}},
		{[]int{266}, 0, 65802, 3, []int{37, 33}, nil},
		{[]int{266}, 267, 65535, 0, nil, []pair{{266, 41}}},
		{[]int{266, 267}, 266, 1, 1, []int{37, 40, 33}, []pair{{267, 42}}},
		{[]int{266, 521, 522}, 300, 222, 1, []int{37, 40, 33}, []pair{{266, 41}, {522, 44}}},
		{[]int{266, 522}, 266, 1, 2, []int{37, 39, 33}, []pair{{522, 43}}},
		{[]int{266, 522}, 522, 256, 2, []int{37, 39, 33}, []pair{{266, 41}}},
		{[]int{266, 267, 522, 523, 778}, 267, 256, 2, []int{37, 40, 43, 33}, []pair{{266, 41}, {523, 45}, {778, 47}}},
		{[]int{266, 267, 522, 523, 778}, 267, 512, 6, []int{37, 40, 39, 33}, []pair{{266, 41}}},
		{[]int{266, 522, 778, 779}, 0, 779, 5, []int{37, 44, 39, 33}, []pair{{779, 46}}},
		{[]int{9, 10, 11, 266, 267}, 0, 267, 5, []int{37, 44, 33}, []pair{{267, 46}}},
		{[]int{10, 11, 266, 267}, 11, 256, 2, []int{37, 39, 43, 33}, []pair{{10, 40}, {267, 45}}},
		{[]int{0, 9, 10, 265, 266, 521, 522, 65801}, 0, 65802, 13, []int{37, 33}, nil},
		{nil, 0, 65802, 0, nil, nil},
	} {
		a := made(t, ten(t)).own(2, rising(39), c.there...)
		l := inStep(t, a)
		drop(t, l, 2, c.first, c.count, c.want, api.OK)
		all(t, l, 2, c.left...)
		if got := order(t, a, dropping(2, c.first, c.count)); !slices.Equal(got, c.group) {
			t.Errorf("%v, then Drop of %d from %d on: the blocks %v, not %v", c.there, c.count, c.first, got, c.group)
		}
	}
}

// P12.6: blocks are given back index by index: where their bits stand in several blocks of the bitmap, these are changed in that order, the index blocks' between.
func TestDropOrderWide(t *testing.T) {
	for _, c := range []struct {
		picks        []int // of the index blocks and the blocks of 3, 4, 10, 11, 266, 522
		first, count int
		group        []int
	}{
		// The bitmap's blocks are 35 (blocks below 8192), 36 and 37.
		{[]int{100, 9000, 101, 17000, 102, 103, 104, 105, 106, 107}, 3, 2, []int{35, 36, 33}},
		{[]int{9000, 100, 101, 17000, 102, 103, 104, 105, 106, 107}, 3, 2, []int{36, 35, 33}},
		{[]int{100, 101, 17000, 102, 9000, 103, 104, 105, 106, 107}, 10, 2, []int{35, 36, 37, 33}},
		{[]int{100, 101, 102, 9000, 17000, 103, 104, 105, 106, 107}, 11, 1, []int{37, 102, 33}},
		{[]int{100, 101, 102, 103, 104, 9000, 17000, 105, 106, 107}, 266, 1, []int{35, 37, 9000, 33}},
		{[]int{100, 101, 102, 103, 104, 9000, 105, 106, 17000, 107}, 266, 257, []int{35, 37, 36, 33}},
		{[]int{100, 101, 102, 103, 104, 105, 17000, 106, 107, 9000}, 266, 257, []int{35, 37, 36, 33}},
		{[]int{100, 101, 102, 103, 104, 9000, 106, 17000, 107, 105}, 266, 257, []int{37, 35, 36, 33}},
	} {
		k := 0
		pick := func() int { k++; return c.picks[k-1] }
		a := made(t, wide(t)).own(2, pick, 3, 4, 10, 11, 266, 522)
		if got := order(t, a, dropping(2, c.first, c.count)); !slices.Equal(got, c.group) {
			t.Errorf("%v, Drop of %d from %d on: the blocks %v, not %v", c.picks, c.count, c.first, got, c.group)
		}
		tightly(t, a, "Drop", dropping(2, c.first, c.count))
	}
}

// P12.6, P12.8: Drop of spans of all kinds, on files of all kinds: what is left, Blocks and the bitmap say so.
func TestDrop(t *testing.T) {
	ends := []int{0, 1, 9, 10, 11, 265, 266, 267, 521, 522, 778, 65801, 65802}
	for _, a := range states(t, ten(t)) {
		for i, first := range ends {
			for _, end := range ends[i:] {
				w := newWorld(t, a)
				before := w.a.free()
				w.do(t, beginning(12), dropping(2, first, end-first))
				given := w.a.free() - before
				if n := w.a.node(2); int(n.Blocks)+given != int(a.node(2).Blocks) || n.Kind != api.KindFile || n.Links != 1 || n.Size != 5 {
					t.Fatalf("%d are given back, the inode is %v, and was %v", given, n, a.node(2))
				}
				w.agree(t, 2, 3)
				w.kept(t, 2, 38)
				for _, p := range a.all(2) {
					want := p.at
					if p.index >= first && p.index < end {
						want = 0
					}
					at(t, w.l, 2, p.index, want, api.OK)
				}
				if given == 0 && w.l.Used() != 0 {
					t.Fatalf("Drop of nothing changes %v", w.a.group)
				}
				w.do(t, dropping(2, first, end-first), needing(2, 0, 600), lasting(2, 0))
				w.wrote(t, w.a.group...)
			}
		}
	}
}

// P12.6: ErrTight of Drop at each reservation, and what was written ahead of it.
func TestDropTight(t *testing.T) {
	a := made(t, ten(t)).own(2, rising(39), 0, 9, 10, 11, 12, 266, 267, 522, 523, 778, 1034, 1035)
	for _, c := range [][2]int{{0, 1}, {0, 12}, {10, 3}, {11, 256}, {11, 257}, {267, 1}, {522, 1}, {522, 2}, {267, 257}, {267, 512}, {266, 769}, {0, 1035}, {5, 65000}, {0, 65802}, {20, 10}} {
		tightly(t, a, "Drop", dropping(2, c[0], c[1]))
	}
}

// P12.4, P12.6: a step that ErrTight was answered goes on: what fits is still done.
func TestTightAndOn(t *testing.T) {
	w := newWorld(t, made(t, ten(t)).own(2, rising(39), 0, 10, 11, 266))
	w.do(t, beginning(3), mapping(2, 12), mapping(2, 0), mapping(2, 1), dropping(2, 10, 1), mapping(2, 2), dropping(2, 0, 1), mapping(2, 3), dropping(2, 266, 1), mapping(2, 12))
	w.agree(t, 2)
	w.commits(t, w.a.group...)
}

// badNumbers are numbers of no data block of the ten examples' layout.
var badNumbers = []uint32{1, 2, 32, 33, 36, 37, 400, 401, 402, 1 << 16, 1 << 20, 1 << 24, math.MaxInt32, 1 << 31, 1<<31 + 50, math.MaxUint32 - 300, math.MaxUint32}

// P12.1, P12.7: a block number that is no data block's, at each place where one can stand: the calls that meet it are ErrInval and nothing has changed, others are not concerned, and All goes over nothing.
func TestBadNumbers(t *testing.T) {
	good := func() *account { // the single index block is 41, the double one 44, those below it 45, 48
		return made(t, ten(t)).own(2, rising(39), 3, 9, 10, 265, 266, 521, 522, 65801)
	}
	in := func(change func(n *api.Node, v uint32)) func(a *account, v uint32) {
		return func(a *account, v uint32) {
			n := a.node(2)
			change(&n, v)
			a.has(2, n)
		}
	}
	laid := func(at, place int) func(a *account, v uint32) {
		return func(a *account, v uint32) { a.holds(at, place, int(v)) }
	}
	places := []struct {
		lay        func(a *account, v uint32)
		first, end int // the indices on whose way it stands
	}{
		{in(func(n *api.Node, v uint32) { n.Direct[0] = v }), 0, 1},
		{in(func(n *api.Node, v uint32) { n.Direct[3] = v }), 3, 4},
		{in(func(n *api.Node, v uint32) { n.Direct[9] = v }), 9, 10},
		{in(func(n *api.Node, v uint32) { n.Single = v }), 10, 266},
		{laid(41, 0), 10, 11},
		{laid(41, 100), 110, 111},
		{laid(41, 255), 265, 266},
		{in(func(n *api.Node, v uint32) { n.Double = v }), 266, 65802},
		{laid(44, 0), 266, 522},
		{laid(44, 7), 266 + 7*256, 266 + 8*256},
		{laid(44, 255), 65546, 65802},
		{laid(45, 0), 266, 267},
		{laid(45, 255), 521, 522},
		{laid(48, 3), 525, 526},
	}
	for _, place := range places {
		for _, bad := range badNumbers {
			a := good()
			place.lay(a, bad)
			w := newWorld(t, a)
			w.do(t, beginning(31))
			all(t, w.l, 2)
			meets(t, w, place.first, place.end)
			spared(t, w, good(), place.first, place.end)
			w.agree(t, 1)
		}
	}
}

// meets asks calls that concern indices from first to end - 1, on whose way a bad number stands.
func meets(t *testing.T, w *world, first, end int) {
	t.Helper()
	for _, index := range []int{first, (first + end) / 2, end - 1} {
		at(t, w.l, 2, index, 0, api.ErrInval)
		mapIt(t, w.l, 2, index, 0, api.ErrInval)
	}
	for _, c := range [][2]int{{first, 1}, {end - 1, 1}, {0, end}, {first, 65802 - first}, {0, 65802}, {0, first + 1}, {end - 1, 65803 - end}} {
		need(t, w.l, 2, c[0], c[1], 0, api.ErrInval)
		drop(t, w.l, 2, c[0], c[1], 0, api.ErrInval)
	}
	if w.l.Used() != 0 {
		t.Fatalf("calls that are ErrInval change %d blocks", w.l.Used())
	}
}

// spared asks calls that concern no index from first to end - 1: they are answered as if the number were a good one.
func spared(t *testing.T, w *world, good *account, first, end int) {
	t.Helper()
	for _, index := range edges {
		if index < first || index >= end {
			want, _ := good.at(2, index)
			at(t, w.l, 2, index, want, api.OK)
		}
	}
	want, _ := good.need(2, 0, first)
	need(t, w.l, 2, 0, first, want, api.OK)
	want, _ = good.need(2, end, 65802-end)
	need(t, w.l, 2, end, 65802-end, want, api.OK)
	need(t, w.l, 2, first, 0, 0, api.OK)
	drop(t, w.l, 2, first, 0, 0, api.OK)
	want, _ = good.last(2, end)
	last(t, w.l, 2, end, want, api.OK)
	if w.l.Used() != 0 {
		t.Fatalf("calls that change nothing change %d blocks", w.l.Used())
	}
}

// P12.1: Last is ErrInval where the greatest number from from on is no data block's, and where that of the index block above it is none.
func TestLastBad(t *testing.T) {
	for _, bad := range badNumbers {
		for i := range 4 {
			a := made(t, ten(t)).own(2, rising(39), 5, 20) // the single index block is 40
			n := a.node(2)
			switch i {
			case 0:
				n.Double = bad
			case 1:
				a.holds(40, 11, int(bad))
			case 2:
				n.Single = bad
			case 3:
				n.Single = 0
				n.Direct[7] = bad
			}
			a.has(2, n)
			w := newWorld(t, a)
			for _, from := range []int{0, 5, 7} {
				last(t, w.l, 2, from, 0, api.ErrInval)
			}
			last(t, w.l, 1, 0, 0, api.OK)
		}
	}
}

// P12.7, rule 5: All may be left early, at each place, and gone over again, also within itself.
func TestAllStopped(t *testing.T) {
	w := newWorld(t, made(t, ten(t)).own(2, falling(90), 0, 9, 10, 265, 266, 521, 522, 65801))
	want := w.a.all(2)
	seq := chart.All(w.l, 2)
	for stop := range len(want) + 1 {
		var got []pair
		for index, at := range seq {
			if len(got) == stop {
				break
			}
			got = append(got, pair{index, at})
		}
		if !slices.Equal(got, want[:stop]) {
			t.Errorf("left behind %d: %v", stop, got)
		}
	}
	n := 0
	for outer := range seq {
		for inner := range seq {
			if inner == outer {
				n++
				break
			}
		}
	}
	if n != len(want) {
		t.Errorf("within itself: %d, not %d", n, len(want))
	}
	asked := 0
	seq(func(int, int) bool { asked++; return asked < 3 })
	if asked != 3 {
		t.Errorf("asked %d times", asked)
	}
}

// Rule 5: All goes over what was there at the call, whatever becomes of the file and of the log.
func TestAllStays(t *testing.T) {
	w := newWorld(t, made(t, ten(t)).own(2, falling(90), 0, 10, 266))
	want := w.a.all(2)
	seq, none := chart.All(w.l, 2), chart.All(w.l, 3)
	same := func() {
		t.Helper()
		for _, c := range []struct {
			seq  func(func(int, int) bool)
			want []pair
		}{{seq, want}, {none, nil}} {
			var got []pair
			for index, at := range c.seq {
				got = append(got, pair{index, at})
			}
			if !slices.Equal(got, c.want) {
				t.Errorf("%v, not %v", got, c.want)
			}
		}
	}
	same()
	w.do(t, beginning(20), mapping(2, 1), mapping(2, 11), mapping(3, 5), dropping(2, 266, 1))
	same()
	w.do(t, dropping(2, 0, 65802), ending(), syncing())
	same()
	w.agree(t, 2, 3)
	w.d.Crash(nil)
	same()
	all(t, w.l, 2)
}

// P12.7: a loop over All may change the file meanwhile.
func TestAllWhileDropping(t *testing.T) {
	w := newWorld(t, made(t, ten(t)).own(2, rising(39), 0, 9, 10, 265, 266, 521, 522, 65801))
	w.do(t, beginning(31))
	n := 0
	for index := range chart.All(w.l, 2) {
		w.do(t, dropping(2, index, 1))
		n++
	}
	if n != 8 {
		t.Errorf("%d pairs", n)
	}
	all(t, w.l, 2)
	free(t, w.l, 361)
	w.agree(t, 2)
}

// full is a disk with a file of as many blocks as one may have.
func full(t testing.TB) *account {
	t.Helper()
	where := layout(t, 66200, 32, 16) // the bitmap is 35 to 43, the data 44 to 66199
	var indices []int
	for index := range 65802 {
		indices = append(indices, index)
	}
	return made(t, where).own(2, falling(66199), indices...)
}

// P12.2 to P12.8: a file of as many blocks as one may have: each index, all of them, and all given back at once.
func TestFull(t *testing.T) {
	w := newWorld(t, full(t))
	want := w.a.all(2)
	if len(want) != 65802 || w.a.node(2).Blocks != 66060 {
		t.Fatalf("%d indices, %v", len(want), w.a.node(2))
	}
	all(t, w.l, 2, want...)
	w.do(t, beginning(11))
	for index := 0; index < 65802; index += 37 {
		at(t, w.l, 2, index, want[index].at, api.OK)
		mapIt(t, w.l, 2, index, want[index].at, api.OK)
		need(t, w.l, 2, 0, index, 0, api.OK)
		last(t, w.l, 2, index, 65801, api.OK)
		if index > 3000 {
			index += 3000
		}
	}
	need(t, w.l, 2, 0, 65802, 0, api.OK)
	w.do(t, dropping(2, 65801, 1), lasting(2, 0), needing(2, 0, 65802), mapping(2, 65801), dropping(2, 10, 256), dropping(2, 300, 20000), needing(2, 0, 65802))
	w.agree(t, 2)
	w.do(t, ending(), beginning(11), dropping(2, 0, 65802))
	free(t, w.l, 66200-45)
	all(t, w.l, 2)
	if n, err := rack.Read(w.l, 2); n != (api.Node{Kind: api.KindFile, Links: 1, Size: 5}) || err != api.OK {
		t.Errorf("the inode is %v, %d", n, err)
	}
	w.agree(t, 2)
	w.commits(t, w.a.group...)
}

// P12.6: a file of as many blocks as one may have is given back by a step that may change eleven blocks, from the least index on and from the greatest on, in two.
func TestFullInTwo(t *testing.T) {
	a := full(t)
	for _, cut := range []int{266, 522, 33034} {
		for _, turned := range []bool{false, true} {
			w := newWorld(t, a)
			parts := [][2]int{{0, cut}, {cut, 65802 - cut}}
			if turned {
				slices.Reverse(parts)
			}
			for _, p := range parts {
				w.do(t, step(12, dropping(2, p[0], p[1])))
			}
			all(t, w.l, 2)
			free(t, w.l, 66200-45)
		}
	}
}

// What Map and Drop leave alone: an inode's Kind, Links and Size, whatever they are, also those of one that is free by its Kind; and all other inodes.
func TestOtherFields(t *testing.T) {
	for _, n := range []api.Node{{}, {Kind: api.KindDir, Links: 2, Size: 32}, {Kind: 7, Links: 65535, Size: math.MaxUint32}, {Kind: api.KindFile, Links: 1000, Size: api.MaxFile}} {
		for _, inum := range []int{3, 15, 16, 59, 60} {
			a := made(t, ten(t))
			for i := range 64 {
				if i > 1 {
					a.has(i, api.Node{Kind: 1, Links: uint16(i), Size: uint32(1000 * i)})
				}
			}
			a.has(inum, n)
			w := newWorld(t, a)
			w.do(t, beginning(20), mapping(inum, 9), mapping(inum, 10), mapping(inum, 300), dropping(inum, 10, 1))
			want := n
			want.Blocks, want.Direct[9], want.Double = 4, 39, 42
			if got, err := rack.Read(w.l, inum); got != want || err != api.OK {
				t.Errorf("the inode is %v, %d, not %v", got, err, want)
			}
			w.agree(t, inum)
			w.do(t, dropping(inum, 0, 65802))
			if got, err := rack.Read(w.l, inum); got != n || err != api.OK {
				t.Errorf("the inode is %v, %d, not %v", got, err, n)
			}
			w.commits(t, w.a.group...)
		}
	}
}

// P12.8: two files of one disk do not know of each other.
func TestTwoFiles(t *testing.T) {
	w := newWorld(t, made(t, ten(t)))
	w.do(t, beginning(31), mapping(2, 266), mapping(20, 266), mapping(2, 267), mapping(20, 10), mapping(2, 10), mapping(20, 267))
	w.agree(t, 2, 20)
	w.do(t, dropping(2, 0, 65802))
	w.agree(t, 2, 20)
	w.kept(t, 20, 38)
	w.do(t, mapping(2, 3), mapping(2, 700))
	w.agree(t, 2, 20)
	w.kept(t, 20, append(w.owned(2), 38)...)
}

// lists goes over all lists of so many numbers below n.
func lists(n, length int, do func(list []int)) {
	list := make([]int, length)
	var more func(i int)
	more = func(i int) {
		if i == length {
			do(list)
			return
		}
		for list[i] = range n {
			more(i + 1)
		}
	}
	more(0)
}

// P12.1 to P12.8: all short lists of acts, in steps and outside them, on a disk with few free blocks.
func TestShortLists(t *testing.T) {
	acts := []act{beginning(2), beginning(7), ending(), mapping(2, 0), mapping(2, 10), mapping(2, 522), dropping(2, 0, 11), dropping(2, 10, 65000), syncing()}
	a := made(t, small(t)).own(2, falling(41), 266)
	im := a.image()
	lists(len(acts), 4, func(list []int) {
		d := load(t, im)
		w := &world{d: d, l: newLog(t, d, a.where), a: &account{where: a.where, now: map[int]api.Block{}}}
		for at, b := range a.now {
			w.a.now[at] = b
		}
		for _, k := range list {
			w.do(t, acts[k])
		}
		w.agree(t, 2)
	})
}

// P12.8: long rows of acts, drawn anew the same way each time, over steps and commits, with blocks written by others between.
func TestLongRows(t *testing.T) {
	for seed := range 8 {
		draw := rand.New(rand.NewSource(int64(seed)))
		where := []api.Layout{ten(t), small(t), layout(t, 90, 40, 40), wide(t)}[seed%4]
		a := made(t, where)
		if seed%4 == 3 {
			for at := 60; at < 8190; at++ {
				a.use(at)
			}
		}
		w := newWorld(t, a)
		index := func() int {
			switch draw.Intn(4) {
			case 0:
				return draw.Intn(65802)
			case 1:
				return draw.Intn(600)
			}
			return edges[draw.Intn(len(edges))]
		}
		for i := range 500 {
			inum := 2 + draw.Intn(2)
			first, other := index(), index()
			switch draw.Intn(10) {
			case 0:
				w.do(t, beginning(min(1+draw.Intn(40), 25)))
			case 1:
				w.do(t, ending())
			case 2:
				w.do(t, syncing())
			case 3, 4, 5, 6:
				w.do(t, mapping(inum, first), finding(inum, first))
			case 7:
				w.do(t, dropping(inum, min(first, other), max(first, other)-min(first, other)+1))
			case 8:
				w.do(t, dropping(inum, first, 1+draw.Intn(3)), needing(inum, min(first, other), draw.Intn(65802)))
			case 9:
				w.do(t, finding(inum, first), lasting(inum, first), needing(inum, first, 1+draw.Intn(9)))
			}
			if i%25 == 0 {
				w.agree(t, 2, 3)
			}
		}
		if w.l.Open() {
			w.do(t, ending())
		}
		w.do(t, syncing())
		w.agree(t, 1, 2, 3)
		w.onDisk(t)
	}
}

// At, Need, Last and All change nothing and write nothing, in a step and outside one.
func TestAskingIsQuiet(t *testing.T) {
	w := newWorld(t, made(t, ten(t)).own(2, rising(39), 0, 10, 266))
	ask := func() {
		for _, n := range slices.Concat(edges, beyond) {
			chart.At(w.l, 2, n)
			chart.Need(w.l, 2, n, 10)
			chart.Last(w.l, 2, n)
			listed(w.l, n)
		}
	}
	ask()
	w.do(t, beginning(6))
	ask()
	w.do(t, mapping(2, 1))
	ask()
	w.do(t, ending())
	ask()
	w.agree(t, 1, 2, 3)
	if w.d.Made() != 0 || w.l.Used() != 3 || w.l.Steps() != 1 {
		t.Errorf("%d things done, %d blocks, %d steps", w.d.Made(), w.l.Used(), w.l.Steps())
	}
}

// Rule 6: two logs of two disks do not know of each other.
func TestTwoLogs(t *testing.T) {
	one, two := newWorld(t, made(t, small(t))), newWorld(t, made(t, ten(t)).own(2, rising(39), 3, 10, 266))
	one.do(t, beginning(9), mapping(2, 266))
	two.do(t, beginning(9), mapping(2, 267), dropping(2, 3, 1))
	one.do(t, mapping(2, 267), dropping(2, 0, 267))
	two.do(t, ending(), syncing(), beginning(9), mapping(2, 3))
	one.agree(t, 1, 2)
	one.d.Crash(nil)
	mapIt(t, one.l, 2, 0, 0, api.ErrDead)
	two.do(t, mapping(2, 4), dropping(2, 10, 1), lasting(2, 0))
	two.agree(t, 1, 2)
}

// drawn is a disk of the ten examples' layout whose inodes 2 and 3, bits and first data blocks are any, with numbers of these blocks, one and the same at several places, far more often than others; bad: with some that are no data block's.
func drawn(t testing.TB, draw *rand.Rand, bad bool) *account {
	t.Helper()
	a := made(t, ten(t))
	number := func() uint32 {
		switch {
		case draw.Intn(3) == 0:
			return 0
		case bad && draw.Intn(40) == 0:
			return badNumbers[draw.Intn(len(badNumbers))]
		}
		return uint32(38 + draw.Intn(6))
	}
	for inum := 2; inum <= 3; inum++ {
		n := api.Node{Kind: api.KindFile, Blocks: uint32(draw.Intn(3)), Single: number(), Double: number()}
		for i := range n.Direct {
			n.Direct[i] = number()
		}
		a.has(inum, n)
	}
	for at := 38; at < 44; at++ {
		a.now[at] = api.Block{}
		for range 1 << draw.Intn(9) {
			a.holds(at, draw.Intn(256), int(number()))
		}
	}
	bits := a.now[37]
	draw.Read(bits[:50])
	if draw.Intn(2) == 0 {
		bits = api.Block{}
	}
	a.now[37] = bits
	return a
}

// Rule 8: index blocks that stand in several places, that stand below themselves, that are empty; blocks of two files; bits that say otherwise: what is read is what the numbers say.
func TestAnyNumbers(t *testing.T) {
	for seed := range 60 {
		draw := rand.New(rand.NewSource(int64(seed)))
		a := drawn(t, draw, seed%3 == 0)
		w := newWorld(t, a)
		for range 40 {
			index := draw.Intn([]int{10, 266, 1000, 65802}[draw.Intn(4)])
			w.do(t, finding(2, index), finding(3, index))
		}
		w.agree(t, 2, 3)
		if seed%3 != 0 { // an account does not say which numbers are met ahead of others
			w.do(t, needing(2, 0, 65802), needing(3, 5, 1000), lasting(2, 0), lasting(2, 300), lasting(3, 11))
		}
	}
}

// Rule 8: on whatever disk every call ends and none panics; what it writes lies in the log and in the data, bitmap and inode regions; a call that is refused answers nothing else.
func TestAnyDisk(t *testing.T) {
	calls := []func(l *wal.Log, inum, first, count int) (int, api.Errno){
		func(l *wal.Log, inum, first, _ int) (int, api.Errno) { return chart.At(l, inum, first) },
		func(l *wal.Log, inum, first, _ int) (int, api.Errno) { return chart.Map(l, inum, first) },
		func(l *wal.Log, inum, first, _ int) (int, api.Errno) { return chart.Last(l, inum, first) },
		chart.Need,
		chart.Drop,
	}
	for seed := range 60 {
		draw := rand.New(rand.NewSource(int64(seed)))
		a := drawn(t, draw, seed%2 == 0)
		if seed%5 == 0 { // any bytes at all
			for at := 33; at < 60; at++ {
				b := a.now[at]
				draw.Read(b[:])
				a.now[at] = b
			}
		}
		w := newWorld(t, a)
		for range 12 {
			ok(t, w.l.Begin(1+draw.Intn(31)))
			for range 6 {
				k, inum, first := draw.Intn(len(calls)), 2+draw.Intn(2), draw.Intn([]int{12, 300, 65802}[draw.Intn(3)])
				used := w.l.Used()
				n, err := calls[k](w.l, inum, first, min(1+draw.Intn(600), 65802-first))
				if err != api.OK && n != 0 {
					t.Fatalf("call %d: %d, %d", k, n, err)
				}
				if (k == 0 || k == 2 || k == 3) && w.l.Used() != used {
					t.Fatalf("call %d changes blocks", k)
				}
				listed(w.l, inum)
			}
			ok(t, w.l.End(), w.l.Sync())
		}
		for _, op := range w.d.History() {
			if op.Kind == api.OpWrite && (op.At < 1 || op.At >= 400) {
				t.Fatalf("a write to block %d", op.At)
			}
		}
	}
}
