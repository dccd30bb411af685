package files_test

import (
	"bytes"
	"math"
	"slices"
	"testing"

	"undercroft/api"
	"undercroft/room"
)

// counts are how many bytes may be asked for, and how many may not.
var counts = []int{math.MinInt, -65536, -1, 0, 1, 2, 3, 1023, 1024, 1025, 2048, 8191, 8192, 8193, 20000, 65535, 65536, 65537, 1 << 30, math.MaxInt}

// P26.1, Read: at places and of sizes about all borders, of a file with holes; at and behind its end, up to the greatest place.
func TestRead(t *testing.T) {
	x := newWorld(t, village(t, small()), small())
	x.all(t, opening(2, rw))
	for _, size := range []int{0, 1, 1000, 1024, 5000, 100000, 300000} {
		formed(t, x, 0, size, "every third block")
		for _, place := range []int{0, 1, 1023, 1024, 1025, 2048, 3071, 3072, 8191, 8192, 10239, 10240, 40000, size - 2, size - 1, size, size + 1, size + 70000, api.MaxFile - 1, api.MaxFile} {
			for _, count := range counts {
				x.answers(t, 0, seeking(0, place, 0))
				x.answers(t, 0, reading(0, count))
				x.seesOne(t, 0, 0) // the place has gone on by as many
			}
		}
	}
	x.sees(t)
}

// P26.1, Read: one read behind the other is the whole file, whatever the sizes.
func TestReadOn(t *testing.T) {
	x := newWorld(t, village(t, small()), small())
	x.all(t, opening(2, rw))
	formed(t, x, 0, 150000, "every third block")
	for _, count := range []int{700, 1024, 8192, 65536} {
		var p []byte
		x.do(t, 0, seeking(0, 0, 0))
		for {
			got := x.answers(t, 0, reading(0, count))
			if p = append(p, got.Bytes...); got.Value == 0 {
				break
			}
		}
		if !bytes.Equal(p, x.a.things[2].bytes) {
			t.Errorf("read by %d bytes it is another file", count)
		}
	}
}

// P26.1, P26.4, Write: at places and of sizes about all borders; what is beside it stays.
func TestWrite(t *testing.T) {
	x := newWorld(t, village(t, small()), small())
	x.all(t, opening(2, rw))
	for i, place := range []int{0, 1, 1023, 1024, 5000, 8190, 8191, 8192, 8193, 10239, 10240, 16383, 60000, 100000, 272383, 272384, 280000} {
		for k, count := range []int{0, 1, 2, 1023, 1024, 1025, 8191, 8192, 8193, 20000, 65535, 65536, 65537, 70000} {
			x.answers(t, 0, seeking(0, place, 0))
			x.answers(t, 0, writing(0, sown(i*16+k, count)))
			x.seesOne(t, 0, 0)
			if k%4 == 3 {
				x.whole(t)
				x.answers(t, 0, truncating(0, []int{0, place, place + 3000}[i%3]))
			}
		}
		x.whole(t)
	}
}

// P26.1, Write: the greatest place, and what would be behind it; no bytes there are no error.
func TestEnd(t *testing.T) {
	x := newWorld(t, village(t, small()), small())
	x.all(t, opening(2, rw), seeking(0, api.MaxFile, 0), writing(0, nil), writing(0, []byte{1}), reading(0, 65536), stating(0))
	for _, place := range []int{api.MaxFile - 1, api.MaxFile - 2, api.MaxFile - 1024, api.MaxFile - 8192, api.MaxFile - 65536, api.MaxFile - 65537} {
		for _, count := range []int{0, 1, 2, 3, 1024, 1025, 8192, 8193, 65535, 65536, 65537} {
			x.answers(t, 0, seeking(0, place, 0))
			x.answers(t, 0, writing(0, sown(count, count)))
			x.seesOne(t, 0, 0)
		}
		x.whole(t)
		x.all(t, seeking(0, place, 0), reading(0, 65536))
	}
	// Its last piece alone is behind what a file may have.
	x.all(t, truncating(0, 0), seeking(0, api.MaxFile-20000, 0), writing(0, sown(1, 20001)), stating(0), writing(0, sown(1, 20000)), stating(0))
	x.whole(t)
	x.all(t, truncating(0, api.MaxFile), truncating(0, api.MaxFile-1), truncating(0, api.MaxFile), truncating(0, api.MaxFile+1), truncating(0, 5), truncating(0, api.MaxFile), stating(0))
	x.whole(t)
}

// spared has so many data blocks be free: a file takes the others.
func spared(t *testing.T, x *world, desc, free int) {
	t.Helper()
	x.answers(t, 0, seeking(desc, 0, 0))
	for x.a.free() > free {
		if x.answers(t, 0, writing(desc, sown(free, 1024*min(8, x.a.free()-free)))).Err != api.OK {
			t.Fatalf("%d blocks are free, not %d", x.a.free(), free)
		}
	}
	if n, err := room.Free(x.v.Log()); n != free || err != api.OK {
		t.Fatalf("%d blocks are free, not %d", n, free)
	}
}

// P26.1, Write: where there is no room for the first piece, or for a later one: in direct places, below the single index block, below the double one, where they are there and where they are missing.
func TestRoom(t *testing.T) {
	im := village(t, snug())
	cut := map[bool]int{}
	for _, place := range []int{0, 5000, 8192, 9 * 1024, 10 * 1024, 100000, 265 * 1024, 266 * 1024, 300000, 521 * 1024} {
		for _, count := range []int{1, 1024, 5000, 20000, 30000} {
			x := newWorld(t, im, snug())
			// A file of few blocks that are below the direct ones alone, so that one comes to each number of free ones.
			x.all(t, opening(2, rw), opening(7, rw), opening(8, rw), seeking(2, 60*1024, 0), writing(2, sown(2, 8000)))
			for free := 34; free >= 0; free-- {
				if free > 20 && free%4 != 2 {
					continue
				}
				x.all(t, truncating(1, 0))
				spared(t, x, 1, free)
				x.do(t, 0, seeking(0, place, 0))
				got := x.do(t, 0, writing(0, sown(free, count)))
				if got.Value < count {
					cut[got.Value > 0]++
				}
				x.do(t, 0, writing(2, sown(free, 1000))) // mapped already, or not
				x.do(t, 0, seeking(2, 60*1024, 0))
				x.do(t, 0, writing(2, sown(free+1, 8000))) // there is always room for what has its blocks
				x.do(t, 0, truncating(0, 0))
			}
			x.whole(t)
		}
	}
	if cut[false] < 100 || cut[true] < 100 {
		t.Errorf("cut short: %v", cut)
	}
}

// P26.1, Seek: from each start to each side, of files, of a directory, of an orphan; where it is refused the place stays.
func TestSeek(t *testing.T) {
	x := newWorld(t, village(t, small()), small())
	x.all(t, opening(2, rw), opening(4, rd), opening(5, rd), opening(1, rd), opening(7, wr), unlinking(nameOf(7)), opening(8, rw), truncating(5, api.MaxFile))
	places := []int{0, 1, 31, 32, 100001, api.MaxFile - 1, api.MaxFile}
	var by []int
	for _, n := range slices.Concat(places, []int{2, 1 << 30, math.MaxInt32, math.MaxInt, math.MaxInt - 1, math.MaxInt - api.MaxFile, api.MaxFile + 1, 2 * api.MaxFile, far(0), far(5)}) {
		by = append(by, n-1, n, n+1, -n-1, -n, -n+1)
	}
	by = append(by, math.MinInt, math.MinInt+1)
	flags := []int{0, 1, 2, 3, -1, 4, math.MaxInt, math.MinInt, far(0), far(1), far(2)}
	answered := map[api.Errno]int{}
	for desc := range 7 {
		for _, place := range places {
			for _, n := range by {
				for _, flag := range flags {
					x.answers(t, 0, seeking(desc, place, 0))
					answered[x.answers(t, 0, seeking(desc, n, flag)).Err]++
					x.answers(t, 0, seeking(desc, 0, 1))
				}
			}
		}
		x.sees(t)
	}
	if len(answered) != 3 || answered[api.OK] < 1000 || answered[api.ErrInval] < 1000 {
		t.Errorf("%v", answered)
	}
}

// Seek from the end goes from where the end is now, and Seek alone changes nothing but the place.
func TestSeekEnd(t *testing.T) {
	x := newWorld(t, village(t, small()), small())
	x.all(t, opening(2, rw), opening(2, rd))
	for _, n := range []int{0, 5, 9000, 20000} {
		x.all(t, seeking(0, n, 0), writing(0, []byte{1}), seeking(1, 0, 2), seeking(1, -1, 2), reading(1, 9), seeking(1, 7, 2), reading(1, 9), seeking(0, 0, 2), stating(1))
	}
	x.all(t, truncating(0, 3), seeking(1, 0, 1), seeking(1, 0, 2), seeking(1, -3, 2), seeking(1, -4, 2), seeking(1, api.MaxFile-3, 2), seeking(1, api.MaxFile-2, 2))
	x.whole(t)
}

// P26.1, Truncate: from each size to each, with holes and without, and to what may not be; Stat and bytes behind each; what is made longer again has noughts there.
func TestTruncate(t *testing.T) {
	x := newWorld(t, village(t, small()), small())
	x.all(t, opening(2, rw), opening(2, rd))
	sizes := sizes()
	for i, from := range sizes {
		if from > 600000 && i%2 == 0 {
			continue
		}
		for k, to := range sizes {
			shape := []string{"a hole", "its end", "its beginning", "every third block"}[(i+k)%4]
			if max(from, to) > 600000 && k%3 > 0 {
				continue
			}
			formed(t, x, 0, from, shape)
			x.do(t, 0, seeking(0, from/2, 0))
			x.do(t, 0, truncating(0, to))
			x.answers(t, 0, seeking(1, max(0, to-2000), 0))
			x.answers(t, 0, reading(1, 5000))
			x.do(t, 0, truncating(0, to)) // as long: nothing
			x.do(t, 0, truncating(0, min(api.MaxFile, to+2000)))
			x.answers(t, 0, seeking(1, max(0, to-2000), 0))
			x.answers(t, 0, reading(1, 5000))
		}
		x.whole(t)
	}
	for _, n := range []int{-1, -1024, math.MinInt, math.MinInt + 1, api.MaxFile + 1, 1 << 30, math.MaxInt32, math.MaxInt, far(5)} {
		for desc := -1; desc < 3; desc++ {
			x.do(t, 0, truncating(desc, n))
		}
	}
	x.whole(t)
}

// P26.1, P26.2: descriptors that are closed, out of range, or opened without the flag that is wanted; those of a directory and of an orphan: ErrBad comes ahead of what else is wrong.
func TestDescriptors(t *testing.T) {
	x := newWorld(t, village(t, small()), small())
	x.all(t, opening(3, rd), opening(3, wr), opening(3, rw), opening(5, rd), opening(1, rd|cr), opening(4, rw), opening(9, rw), closing(5), unlinking(nameOf(5)), unlinking(nameOf(9)))
	for desc := -3; desc < 20; desc++ {
		for _, n := range append([]int{api.MaxFile, api.MaxFile + 1}, counts...) {
			x.answers(t, 0, reading(desc, n))
			x.answers(t, 0, writing(desc, make([]byte, min(max(n, 0), 70000))))
			x.answers(t, 0, stating(desc))
			for _, flags := range []int{-1, 0, 1, 2, 3} {
				x.answers(t, 0, seeking(desc, n, flags))
			}
		}
		for _, n := range []int{math.MinInt, -1, 0, 2999, 3000, 3001, api.MaxFile + 1, math.MaxInt} {
			x.answers(t, 0, truncating(desc, n))
		}
		x.sees(t)
	}
	for _, desc := range []int{math.MinInt, math.MaxInt, -1, 16, far(0), far(3), 256, 1 << 16} {
		for _, c := range []api.Call{reading(desc, 1), reading(desc, -1), writing(desc, nil), writing(desc, make([]byte, 65537)), seeking(desc, 0, 0), seeking(desc, 0, 5), truncating(desc, 0), truncating(desc, -1), stating(desc), closing(desc)} {
			if c.Desc != 0 && c.Desc != 3 { // where an int has 32 bits, these are descriptors
				if got := x.do(t, 0, c); got.Err != api.ErrBad {
					t.Fatalf("%d: %+v", desc, got)
				}
			}
		}
	}
	x.whole(t)
}

// The first error in the order of DOC.md's 'The calls', where several could be told.
func TestOrder(t *testing.T) {
	x := newWorld(t, village(t, snug()), snug())
	x.all(t, opening(3, rd), opening(3, wr), opening(1, rd), opening(7, rw), truncating(3, 0))
	spared(t, x, 3, 0)
	x.all(t, seeking(1, api.MaxFile-100, 0))
	big := make([]byte, 65537)
	answers(t, x.f[0], []answer{
		{reading(9, -1), wrong(api.ErrBad)}, {reading(1, 65537), wrong(api.ErrBad)}, {reading(2, 65537), wrong(api.ErrInval)}, {reading(2, -1), wrong(api.ErrInval)}, {reading(2, 0), wrong(api.ErrIsDir)},
		{writing(9, big), wrong(api.ErrBad)}, {writing(0, big), wrong(api.ErrBad)}, {writing(2, nil), wrong(api.ErrBad)}, {writing(1, big), wrong(api.ErrInval)}, {writing(1, big[:101]), wrong(api.ErrBig)}, {writing(1, big[:100]), wrong(api.ErrNoSpace)}, {writing(1, nil), value(0)},
		{seeking(9, -1, 7), wrong(api.ErrBad)}, {seeking(0, -1, 7), wrong(api.ErrInval)},
		{truncating(9, -1), wrong(api.ErrBad)}, {truncating(0, -1), wrong(api.ErrBad)}, {truncating(2, api.MaxFile+1), wrong(api.ErrBad)}, {truncating(1, -1), wrong(api.ErrInval)}, {truncating(1, api.MaxFile+1), wrong(api.ErrBig)},
		{seeking(1, 0, 1), value(api.MaxFile - 100)},
	})
	x.sees(t)
	x.whole(t)
}

// Rule 3: what Read hands out is new memory, its spare room too; what Write was handed is neither changed nor kept.
func TestOwnMemory(t *testing.T) {
	x := newWorld(t, village(t, small()), small())
	for _, size := range []int{1, 100, 1024, 5000, 65536} {
		room := sown(9, size+3000)
		p := room[100 : 100+size]
		was := slices.Clone(room)
		x.all(t, opening(2, rw|tr), writing(0, p))
		if !bytes.Equal(room, was) {
			t.Fatal("what was handed in is another")
		}
		clear(room)
		var l [][]byte
		for range 3 {
			x.all(t, seeking(0, 0, 0))
			count := min(size+5, api.MaxIO)
			q, err := x.f[0].Read(0, count)
			if x.a.do(0, reading(0, count)); err != api.OK || !bytes.Equal(q, was[100:100+size]) {
				t.Fatalf("%d bytes are others: %d", size, err)
			}
			l = append(l, q)
			p, _ := x.f[0].Read(0, 10)
			l = append(l, p)
		}
		for i, q := range l {
			q = q[:cap(q)]
			for k := range q {
				q[k] = byte(i + 1)
			}
		}
		for i, q := range l {
			if len(q) > 0 && (slices.Min(q[:cap(q)]) != byte(i+1) || slices.Max(q[:cap(q)]) != byte(i+1)) {
				t.Fatal("two lists share something")
			}
		}
		x.all(t, seeking(0, 0, 0), reading(0, size), closing(0))
		x.whole(t)
	}
	// What was read stays, whatever comes later.
	x.all(t, opening(2, rw), writing(0, sown(1, 5000)), seeking(0, 0, 0))
	q := x.do(t, 0, reading(0, 5000)).Bytes
	x.all(t, seeking(0, 0, 0), writing(0, sown(2, 5000)), truncating(0, 0), closing(0))
	if !bytes.Equal(q, sown(1, 5000)) {
		t.Error("what was read is another")
	}
}

// P26.4: what was written at a place is read there, by whatever descriptor of whichever files, while other places are written, read and sought.
func TestStays(t *testing.T) {
	x := newWorld(t, village(t, small()), small())
	places := []int{0, 3, 1000, 1020, 8190, 10239, 12000, 99999, 272380, 272390, 300000}
	for i := range places {
		who := i % 2
		x.do(t, who, opening(2, rw))
		x.do(t, who, opening(2, rd))
	}
	end := 0
	for i, place := range places {
		who, desc := i%2, i/2*2
		x.do(t, who, seeking(desc, place, 0))
		x.do(t, who, writing(desc, sown(i, 3)))
		x.do(t, who, seeking(desc, 50000, 0))
		end = max(end, place+3)
		for k, was := range places[:i+1] {
			for who, f := range x.f {
				desc := (i + k) % 10
				x.do(t, who, seeking(desc, was, 0))
				got := asked(f, reading(desc, 3))
				if x.a.do(who, reading(desc, 3)); !bytes.Equal(got.Bytes, sown(k, 3)) {
					t.Fatalf("at %d: %v, %d", was, got.Bytes, got.Err)
				}
				if got := asked(f, stating(desc)); got.Stat.Size != end {
					t.Fatalf("size %d, not %d", got.Stat.Size, end)
				}
			}
		}
	}
	x.whole(t)
}
