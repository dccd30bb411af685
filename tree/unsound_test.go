package tree_test

import (
	"math"
	"math/rand"
	"testing"

	"undercroft/api"
	"undercroft/tree"
)

// within asks whether nothing was written but to the log and to the regions of inodes, bitmap and data.
func (x *world) within(t testing.TB, g api.Geometry) {
	t.Helper()
	for _, op := range x.d.History() {
		if op.Kind == api.OpWrite && (op.At < 1 || op.At >= g.Blocks) {
			t.Fatalf("block %d was written", op.At)
		}
	}
}

// Rule 8: a block number that is no data block's is ErrInval where it is met; what does not meet it goes on.
func TestBadNumber(t *testing.T) {
	a := town(t, small())
	im := a.image(t)
	for _, n := range []int{1, 32, 33, 37, 400, 401, 1 << 20, math.MaxInt32, -1} {
		nodes := blockOf(im, 33)
		put(nodes[5*64+12:], 4, n) // the block of the directory /d
		put(nodes[3*64+12:], 4, n) // the first block of /b
		x := &world{d: load(t, with(im, 33, nodes))}
		x.open(t, a.again())
		for _, c := range []api.Call{
			stating("/d/f"), stating("/d/x"), opening("/d/f", rd), opening("/d/new", nu), opening("/d/x/y", rd), listing("/d"), making("/d/new"), making("/d/e/new"), linking("/a", "/d/new"), linking("/d/f", "/new"), unlinking("/d/f"), unlinking("/d"), unlinking("/d/e/i"),
			renaming("/d/f", "/new"), renaming("/a", "/d/f"), renaming("/a", "/d/new"), renaming("/h", "/d"), renaming("/d/e", "/new"),
		} {
			if got := x.s.Do(c); !like(got, wrong(api.ErrInval)) {
				t.Fatalf("number %d: %+v: %+v", n, shortCall(c), short(got))
			}
		}
		if x.spent() != (spent{}) {
			t.Fatalf("number %d: %+v", n, x.spent())
		}
		if got := x.s.Do(opening("/b", rw|tr)); !like(got, wrong(api.ErrInval)) || x.spent().made+x.spent().used > 0 {
			t.Fatalf("number %d: %+v", n, short(got))
		}
		x.base = x.spent()
		// The account has another number in both places: all else is as it says.
		x.all(t, stating("/d"), stating("/b"), opening("/b", rw), seeking(0, 1024, 0), reading(0, 5000), making("/new"), renaming("/h", "/new"), opening("/new/x", nu), writing(1, sown(1, 9000)), unlinking("/c"), renaming("/j/k", "/j/m"), closing(1), syncing())
		x.within(t, small())
	}
}

// Rule 8: directories that stand in each other, or whose .. leads nowhere, and names that lead to what there is not: every call ends.
func TestBadNames(t *testing.T) {
	t.Parallel()
	a := town(t, small())
	im := a.image(t)
	paths := []string{"/", "/a", "/b", "/d", "/d/e", "/d/e/..", "/d/..", "/d/f", "/d/e/i", "/h", "/h/..", "/j/k", "/new", "/d/new", "/h/new", "/d/e/new"}
	for _, dir := range []int{1, 5, 6, 8} {
		at := a.items[dir].at[0]
		for slot := range len(a.items[dir].slots) {
			for _, inum := range []int{0, 1, 2, 5, 6, 8, 12, 50, 60, 61, 65535} {
				b := blockOf(im, at)
				put(b[16*slot:], 2, inum)
				x := &world{d: load(t, with(im, at, b))}
				s, err := tree.Open(x.d)
				ok(t, err)
				for i, path := range paths {
					for _, other := range paths[i%3:] {
						for _, c := range []api.Call{renaming(path, other), stating(path), linking(other, path), opening(path, nu), making(path), unlinking(other), closing(i % 3), listing(other)} {
							if got := s.Do(c); got.Err != api.OK && !like(got, wrong(got.Err)) {
								t.Fatalf("%+v: %+v", shortCall(c), short(got))
							}
						}
					}
				}
				s.Unmount()
				x.within(t, small())
			}
		}
	}
}

// Rule 8: a system of whatever disk: every call ends, none panics, nothing is written outside; an answer that is an error tells nothing else.
func TestAnyDisk(t *testing.T) {
	t.Parallel()
	a := town(t, small())
	im := a.image(t)
	c := &chooser{rand.New(rand.NewSource(27)), nil, 600000}
	opened, errs := 0, map[api.Errno]int{}
	for range 700 {
		other := im
		for range 1 + c.Intn(4) {
			at := []int{33, 34, 33, 37, 38 + c.Intn(20), 38 + c.Intn(12)}[c.Intn(6)]
			other = with(other, at, spoiled(c.Rand, blockOf(other, at)))
		}
		x := &world{d: load(t, other)}
		s, err := tree.Open(x.d)
		if err != api.OK {
			if s != nil {
				t.Fatal("a system beside an error")
			}
			x.within(t, small())
			continue
		}
		opened++
		x.s, x.a, c.x = s, a.again(), x // of the account there are just the names, for the choice
		for range 60 {
			call := c.call()
			before := s.Volume().Log().Open()
			got := s.Do(call)
			errs[got.Err]++
			switch {
			case got.Err != api.OK && !like(got, wrong(got.Err)):
				t.Fatalf("%+v: %+v", shortCall(call), short(got))
			case got.Err == api.OK && call.Kind == api.CallOpen:
				x.a.descs[got.Value].open = true
			case call.Kind == api.CallClose && got.Err != api.ErrBad && call.Desc >= 0 && call.Desc < 16:
				x.a.descs[call.Desc].open = false
			}
			if before || s.Volume().Log().Open() {
				t.Fatalf("%+v: %d: a step is open", shortCall(call), got.Err)
			}
		}
		if err := s.Unmount(); err != api.OK {
			t.Fatalf("Unmount: %d", err)
		}
		x.within(t, small())
	}
	if opened < 100 || errs[api.OK] < 1000 || errs[api.ErrInval] < 100 {
		t.Errorf("%d were opened, %v", opened, errs)
	}
}

// spoiled is a block in which some bytes, or all, are others, or numbers of blocks, or inodes, or entries.
func spoiled(c *rand.Rand, b api.Block) api.Block {
	switch c.Intn(5) {
	case 0:
		c.Read(b[:])
	case 1:
		for i := 0; i < 1024; i += 4 {
			put(b[i:], 4, c.Intn(3)*c.Intn(210))
		}
	case 2:
		for range 1 + c.Intn(30) {
			b[c.Intn(1024)] = byte(c.Intn(256))
		}
	case 3:
		for i := range 16 {
			put(b[16*i:], 2, c.Intn(16))
			if c.Intn(3) > 0 {
				copy(b[16*i+2:16*i+16], []string{".\x00", "..\x00", "a\x00", "b\x00", "d\x00", "e\x00"}[c.Intn(6)])
			}
		}
	default:
		for i := range 16 {
			n := b[64*i : 64*i+64]
			put(n, 4, 1+c.Intn(2)+1<<16*c.Intn(3))
			put(n[4:], 4, int(c.Uint32()>>c.Intn(28)))
			put(n[8:], 4, c.Intn(20))
			for k := 12; k < 60; k += 4 {
				put(n[k:], 4, c.Intn(3)*c.Intn(202))
			}
		}
	}
	return b
}
