package files_test

import (
	"math"
	"math/rand"
	"testing"

	"undercroft/api"
)

// situation is what was opened ahead of what is asked.
type situation struct {
	name string
	made func(t *testing.T, x *world)
}

// situations are how many descriptors are open, and how many inodes are held.
func situations() []situation {
	each := func(who int, inums ...int) func(t *testing.T, x *world) {
		return func(t *testing.T, x *world) {
			for _, inum := range inums {
				x.do(t, who, opening(inum, rd))
			}
		}
	}
	return []situation{
		{"nothing is open", each(0)},
		{"fifteen descriptors", each(0, 2, 2, 3, 4, 5, 6, 7, 7, 7, 8, 2, 3, 4, 1, 1)},
		{"all descriptors, the desk has room", each(0, 2, 2, 2, 2, 3, 3, 3, 3, 4, 4, 4, 4, 1, 1, 1, 1)},
		{"a full desk", each(0, 1, 2, 3, 4, 5, 6, 7, 8)},
		{"a full desk, by the other files", each(1, 1, 2, 3, 4, 5, 6, 7, 8)},
		{"a full desk, with an orphan, a directory that is one, and without the root", func(t *testing.T, x *world) {
			each(0, 2, 3, 4, 5, 6, 7, 8)(t, x)
			each(1, 9, 9)(t, x)
			x.all(t, unlinking(nameOf(4)), unlinking(nameOf(5)))
		}},
		{"all descriptors, and a full desk", each(0, 1, 2, 3, 4, 5, 6, 7, 8, 1, 2, 3, 4, 5, 6, 7, 8)},
	}
}

// P26.1, P26.2, Open: every inode number, with every set of flags, in each situation; what is opened is closed again.
func TestOpen(t *testing.T) {
	flags := []int{math.MinInt, -32, -2, 64 | rd, 1 << 30, math.MaxInt, math.MinInt | rd}
	for n := -1; n <= 64; n++ {
		flags = append(flags, n)
	}
	inums := []int{math.MinInt, -65536, math.MaxInt, 1<<16 + 2, 1 << 30, far(2), far(1)}
	for n := -2; n <= 63; n++ {
		inums = append(inums, n)
	}
	im := village(t, small())
	for _, s := range situations() {
		x := newWorld(t, im, small())
		s.made(t, x)
		answers := map[api.Errno]int{}
		for _, inum := range inums {
			for _, flag := range flags {
				got := x.answers(t, 0, opening(inum, flag))
				answers[got.Err]++
				if got.Err != api.OK {
					continue
				}
				x.seesOne(t, 0, got.Value)
				x.answers(t, 0, closing(got.Value))
			}
			x.sees(t)
		}
		x.whole(t)
		if answers[api.ErrInval] < 1000 || answers[api.OK] == 0 && answers[api.ErrMfile] == 0 {
			t.Errorf("%s: %v", s.name, answers)
		}
	}
}

// Open: where several errors could be told, the first in the chapter's order is.
func TestOpenOrder(t *testing.T) {
	im := village(t, small())
	x := newWorld(t, im, small())
	for i := range 16 {
		x.all(t, opening(2+i%8+i%8/3, rd)) // 2 3 4 6 7 8 10 11: the desk is full, too
	}
	if !x.f[0].Full() || !x.v.Desk().Full() {
		t.Fatal("not all is full")
	}
	answers(t, x.f[0], []answer{
		{opening(0, 0), wrong(api.ErrInval)}, {opening(61, 33), wrong(api.ErrInval)}, {opening(30, wr|ex), wrong(api.ErrInval)}, {opening(1, rd|tr), wrong(api.ErrInval)},
		{opening(0, rd), wrong(api.ErrMfile)}, {opening(61, rd), wrong(api.ErrMfile)}, {opening(30, rd), wrong(api.ErrMfile)}, {opening(1, wr), wrong(api.ErrMfile)}, {opening(2, rw|tr), wrong(api.ErrMfile)},
	})
	answers(t, x.f[1], []answer{
		{opening(0, 0), wrong(api.ErrInval)}, {opening(2, tr), wrong(api.ErrInval)},
		{opening(0, wr), wrong(api.ErrArg)}, {opening(61, wr|tr), wrong(api.ErrArg)}, {opening(30, wr), wrong(api.ErrNoEnt)}, {opening(60, rd), wrong(api.ErrNoEnt)},
		{opening(1, wr), wrong(api.ErrIsDir)}, {opening(5, rw|tr), wrong(api.ErrIsDir)}, {opening(5, rd), wrong(api.ErrNfile)}, {opening(9, wr|tr), wrong(api.ErrNfile)},
		{opening(2, rd), value(0)},
	})
}

// permuted are all orders of n numbers.
func permuted(n int) [][]int {
	if n == 0 {
		return [][]int{nil}
	}
	var out [][]int
	for _, l := range permuted(n - 1) {
		for i := range n {
			with := append([]int{}, l[:i]...)
			out = append(out, append(append(with, n-1), l[i:]...))
		}
	}
	return out
}

// Open: the least descriptor that is free, behind closings in each order; and behind many.
func TestLeast(t *testing.T) {
	x := newWorld(t, village(t, small()), small())
	for range 5 {
		x.all(t, opening(2, rw))
	}
	for _, order := range permuted(5) {
		for n := range 6 {
			for i, desc := range order[:n] {
				x.answers(t, 0, seeking(desc, 1+i, 0))
				x.answers(t, 0, closing(desc))
			}
			for i := range n {
				got := x.answers(t, 0, opening(2+i%3, ways[i]))
				if at := asked(x.f[0], seeking(got.Value, 0, 1)); got.Err != api.OK || !like(at, value(0)) {
					t.Fatalf("%d, %+v", got.Value, at)
				}
			}
			x.sees(t)
		}
	}
	c := rand.New(rand.NewSource(1))
	for range 300 {
		for range c.Intn(9) {
			x.answers(t, c.Intn(2), closing(c.Intn(16)))
		}
		for range c.Intn(9) {
			x.answers(t, c.Intn(2), opening(2+c.Intn(3), ways[c.Intn(5)]))
		}
		x.sees(t)
	}
}

// Open with FlagTrunc: files of every size, with holes and without; other descriptors of the file stay at their places.
func TestOpenTrunc(t *testing.T) {
	x := newWorld(t, village(t, small()), small())
	x.all(t, opening(2, rw))
	for _, size := range sizes() {
		for _, shape := range []string{"a hole", "its end", "its beginning", "every third block"} {
			formed(t, x, 0, size, shape)
			if shape != "its end" { // else from what was not yet committed
				x.whole(t)
			}
			x.do(t, 0, seeking(0, size, 0))
			for _, flags := range []int{wr | tr, rw | tr | cr} {
				got := x.do(t, 1, opening(2, flags))
				x.do(t, 1, writing(got.Value, []byte{1, 2, 3}))
				x.do(t, 0, reading(0, 10))
			}
			x.do(t, 1, closing(0))
			x.do(t, 1, closing(1))
		}
	}
	x.whole(t)
}

// sizes are those about the borders of blocks, groups and index blocks, and the greatest that a file may have.
func sizes() []int {
	out := []int{0, 1, 2, 100}
	for _, border := range []int{1024, 2048, 8192, 10240, 16384, 90112, 272384, 534528} {
		out = append(out, border-1, border, border+1)
	}
	return append(out, api.MaxFile-1, api.MaxFile)
}

// formed has a file that has no bytes, and that a descriptor stands for, be of a size and a shape.
func formed(t *testing.T, x *world, desc, size int, shape string) {
	t.Helper()
	x.answers(t, 0, truncating(desc, 0))
	x.answers(t, 0, truncating(desc, size))
	lay := func(at, n int) {
		if n > 0 {
			x.answers(t, 0, seeking(desc, at, 0))
			x.answers(t, 0, writing(desc, sown(at, n)))
		}
	}
	switch shape {
	case "its end":
		lay(max(0, size-1), min(size, 1))
	case "its beginning":
		for at := 0; at < min(size, 200000); at += 65536 {
			lay(at, min(65536, size-at))
		}
	case "every third block":
		for at := 0; at < min(size, 60000); at += 3072 {
			lay(at, min(700, size-at))
		}
	}
}
