package tree_test

import (
	"math/rand"
	"slices"
	"strings"
	"testing"

	"undercroft/api"
)

// chooser chooses calls.
type chooser struct {
	*rand.Rand
	x    *world
	wide int // how far places go
}

// path leads, mostly, to what is there, or to a new name in a directory that is.
func (c *chooser) path() string {
	switch c.Intn(40) {
	case 0:
		return []string{"", "a", "//", strings.Repeat("/", 1025), "/a\x00", "/fifteen letters", "/./", "/..", "/x/y/z"}[c.Intn(9)]
	case 1:
		return forms()[c.Intn(len(forms()))]
	}
	path, inum := "", 1
	for {
		x := c.x.a.items[inum]
		if x == nil || !x.isDir() && c.Intn(20) > 0 {
			return path
		}
		name := string(rune('a' + c.Intn(9)))
		inum = 0
		if x.isDir() && c.Intn(3) > 0 {
			e := x.slots[c.Intn(len(x.slots))]
			if len(x.slots) > 2 && c.Intn(6) > 0 {
				e = x.slots[2+c.Intn(len(x.slots)-2)]
			}
			if e.Inum != 0 {
				name, inum = e.Name, int(e.Inum)
			}
		}
		path += "/" + name
		if inum == 0 || c.Intn(3) == 0 {
			return path + []string{"", "", "", "", "", "/", "/.", "/.."}[c.Intn(8)]
		}
	}
}

// some is a place or a size of a file: near the beginning, a border, a size that there is, or anywhere.
func (c *chooser) some() int {
	switch c.Intn(8) {
	case 0:
		return c.Intn(3000)
	case 1, 2:
		return c.Intn(20000)
	case 3:
		return []int{1024, 8192, 10240, 16384, 90112, 272384, 534528}[c.Intn(7)] + c.Intn(5) - 2
	case 4:
		return []int{1024, 8192, 10240, 65536}[c.Intn(4)] * c.Intn(5)
	case 5:
		if x := c.x.a.items[c.Intn(20)]; x != nil {
			return x.size() + c.Intn(3)
		}
	}
	return c.Intn(c.wide)
}

// desc is a descriptor, mostly one that is open.
func (c *chooser) desc() int {
	if c.Intn(12) == 0 {
		return c.Intn(20) - 2
	}
	var open []int
	for i, d := range c.x.a.descs {
		if d.open {
			open = append(open, i)
		}
	}
	if len(open) == 0 {
		return 0
	}
	return open[c.Intn(len(open))]
}

// bytes are some bytes to be written.
func (c *chooser) bytes() []byte {
	n := []int{0, 1, 3, 1000, 1024, 8192, 30000, 65536, 65537}[c.Intn(9)]
	if n > 3 && n < 60000 {
		n = c.Intn(n)
	}
	p := make([]byte, n)
	if c.Intn(6) > 0 { // else noughts are written
		c.Rand.Read(p)
	}
	return p
}

// flags are some with which things are opened, mostly such as may be.
func (c *chooser) flags() int {
	return []int{rd, rd, rw, nu, nu, nu | ex, rw | tr, nu | tr, wr | tr, rd | cr, wr | cr | ex, 0, c.Intn(70) - 2}[c.Intn(13)]
}

func (c *chooser) call() api.Call {
	switch k := c.Intn(100); {
	case k < 18:
		return opening(c.path(), c.flags())
	case k < 22:
		return reading(c.desc(), []int{0, 1, 100, 5000, 65536, 65537, -1}[c.Intn(7)])
	case k < 31:
		return writing(c.desc(), c.bytes())
	case k < 36:
		return seeking(c.desc(), (1-2*c.Intn(2))*c.some(), c.Intn(12)/4)
	case k < 40:
		return truncating(c.desc(), c.some())
	case k < 50:
		return closing(c.desc())
	case k < 51:
		return statingDesc(c.desc())
	case k < 54:
		return stating(c.path())
	case k < 57:
		return listing(c.path())
	case k < 67:
		return making(c.path())
	case k < 75:
		return linking(c.path(), c.path())
	case k < 83:
		return unlinking(c.path())
	case k < 97:
		return renaming(c.path(), c.path())
	case k < 99:
		return syncing()
	}
	return api.Call{Kind: api.CallKind(c.Intn(crowding)), Path: c.path(), Other: c.path(), Desc: c.desc(), Size: c.some(), Flags: c.flags()}
}

// P1 to P3, P6, P7, P10, P27.2, P27.6: rows of calls of all kinds, held against the account, call by call; the disk looked over, and mounted again, now and then.
func TestRows(t *testing.T) {
	t.Parallel()
	okay := map[api.CallKind]int{}
	errs := map[api.Errno]int{}
	for i, g := range []api.Geometry{small(), snug(), {Blocks: 70, Log: 32, Inodes: 12}, wide()} {
		for seed := range 25 {
			a := empty(g)
			if seed%2 == 0 && i != 2 {
				a = town(t, g)
			}
			x := newWorld(t, a)
			c := &chooser{rand.New(rand.NewSource(int64(100*i + seed))), x, 40000 + 600000*(seed%2)}
			for n := range 400 {
				call := c.call()
				got := x.do(t, call)
				errs[got.Err]++
				if got.Err == api.OK {
					okay[call.Kind]++
				}
				switch {
				case n%90 == 89:
					x.whole(t)
				case n%140 == 139:
					x.again(t)
				case n%9 == 0 && i < 3:
					x.stands(t)
				}
			}
			x.whole(t)
			x.again(t)
			x.whole(t)
		}
	}
	for kind := api.CallOpen; kind <= api.CallSync; kind++ {
		if okay[kind] < 50 {
			t.Errorf("%d calls of the kind %d were OK", okay[kind], kind)
		}
	}
	for err := api.ErrArg; err <= api.ErrNoSpace; err++ {
		if errs[err] == 0 && err != api.ErrDead && err != api.ErrNfile && err != api.ErrMfile {
			t.Errorf("no call was answered by %d: %v", err, errs)
		}
	}
}

// Rule 6: a row of calls is answered alike, and does the same to the disk, however often it is made, and whatever other systems do meanwhile.
func TestRowsAlike(t *testing.T) {
	for seed := range 3 {
		a := town(t, snug())
		x := newWorld(t, a)
		c := &chooser{rand.New(rand.NewSource(int64(1000 + seed))), x, 100000}
		var calls []api.Call
		var was []api.Result
		for range 300 {
			call := c.call()
			calls, was = append(calls, call), append(was, x.answers(t, call))
		}
		ok(t, x.s.Unmount())
		for range 3 {
			y, other := newWorld(t, a), newWorld(t, a)
			for i, call := range calls {
				if got := y.s.Do(call); !like(got, was[i]) {
					t.Fatalf("call %d: %+v, and the first time %+v", i, short(got), short(was[i]))
				}
				other.s.Do(calls[len(calls)-1-i])
			}
			ok(t, y.s.Unmount())
			if !slices.Equal(x.d.History(), y.d.History()) {
				t.Fatal("other things were done to the disk")
			}
		}
	}
}

// Asking changes nothing: where calls that only ask are left out, all others are answered as they were, and do the same to the disk.
func TestAsking(t *testing.T) {
	for seed := range 4 {
		a := town(t, snug())
		x, y := newWorld(t, a), newWorld(t, a)
		c := &chooser{rand.New(rand.NewSource(int64(2000 + seed))), x, 100000}
		for range 300 {
			call := c.call()
			want := x.answers(t, call)
			if slices.Contains([]api.CallKind{api.CallStat, api.CallStatDesc, api.CallReadDir}, call.Kind) || want.Err != api.OK {
				continue
			}
			if got := y.s.Do(call); !like(got, want) {
				t.Fatalf("%+v: %+v, not %+v", shortCall(call), short(got), short(want))
			}
		}
		ok(t, x.s.Unmount(), y.s.Unmount())
		if !slices.Equal(x.d.History(), y.d.History()) {
			t.Fatal("other things were done to the disk")
		}
	}
}
