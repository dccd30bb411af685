package files_test

import (
	"math/rand"
	"slices"
	"testing"

	"undercroft/api"
)

// chooser chooses calls.
type chooser struct {
	*rand.Rand
	x    *world
	wide int // how far places go
}

// some is a place or a size of a file: near the beginning, a border, a size that there is, or anywhere.
func (c *chooser) some() int {
	switch c.Intn(8) {
	case 0:
		return c.Intn(3000)
	case 1, 2:
		return c.Intn(20000)
	case 3:
		return []int{1024, 8192, 10240, 16384, 90112, 272384, 534528}[c.Intn(7)] + c.Intn(5) - 2
	case 4:
		return []int{1024, 8192, 10240, 65536}[c.Intn(4)] * c.Intn(5)
	case 5:
		if x := c.x.a.things[c.Intn(20)]; x != nil {
			return len(x.bytes) + c.Intn(3)
		}
	}
	return c.Intn(c.wide)
}

// desc is a descriptor, mostly one that is open.
func (c *chooser) desc(who int) int {
	if c.Intn(12) == 0 {
		return c.Intn(20) - 2
	}
	var open []int
	for i, s := range c.x.a.tables[who] {
		if s.open {
			open = append(open, i)
		}
	}
	if len(open) == 0 {
		return 0
	}
	return open[c.Intn(len(open))]
}

// bytes are some bytes to be written.
func (c *chooser) bytes() []byte {
	n := []int{0, 1, 3, 1000, 1024, 8192, 30000, 65536, 65537}[c.Intn(9)]
	if n > 3 && n < 60000 {
		n = c.Intn(n)
	}
	p := make([]byte, n)
	if c.Intn(6) > 0 { // else noughts are written
		c.Rand.Read(p)
	}
	return p
}

// call is a call of one of both files, or something beside them.
func (c *chooser) call(who int) api.Call {
	switch k := c.Intn(100); {
	case k < 16:
		flags := slices.Concat(ways, ways, []int{wr | tr, rw | tr, 0, ex, rd | tr, c.Intn(70) - 2})
		return opening(c.Intn(21)-1, flags[c.Intn(len(flags))])
	case k < 32:
		return reading(c.desc(who), []int{0, 1, 100, 1024, 5000, 65536, 65537, -1}[c.Intn(8)])
	case k < 56:
		return writing(c.desc(who), c.bytes())
	case k < 74:
		sign := 1 - 2*c.Intn(2)
		return seeking(c.desc(who), sign*c.some(), c.Intn(12)/4)
	case k < 83:
		return truncating(c.desc(who), c.some())
	case k < 93:
		return closing(c.desc(who))
	case k < 95:
		return stating(c.desc(who))
	case k < 97:
		return unlinking([]string{nameOf(2 + c.Intn(16)), "second"}[c.Intn(8)/7])
	}
	return syncing()
}

// P26.1, P26.2, P26.4, P3, P10: rows of calls of two files of one volume, held against the account; the disk looked over, and mounted again, now and then.
func TestRows(t *testing.T) {
	for _, g := range []api.Geometry{small(), snug(), wide()} {
		im := village(t, g)
		for seed := range 14 {
			x := newWorld(t, im, g)
			c := &chooser{rand.New(rand.NewSource(int64(seed))), x, 40000 + 600000*(seed%2)}
			for range 300 {
				who := c.Intn(2)
				if seed%3 == 0 {
					who = 0
				}
				switch c.Intn(150) {
				case 0:
					x.again(t)
				case 1:
					x.whole(t)
				default:
					x.do(t, who, c.call(who))
				}
			}
			x.whole(t)
			x.again(t)
			x.whole(t)
		}
	}
}

// Rule 6: a row of calls is answered alike, and does the same to the disk, however often it is made, and whatever others do elsewhere.
func TestRowsAlike(t *testing.T) {
	im := village(t, snug())
	for seed := range 3 {
		var calls []api.Call
		var whose []int
		x := newWorld(t, im, snug())
		c := &chooser{rand.New(rand.NewSource(int64(100 + seed))), x, 100000}
		var was []api.Result
		for range 200 {
			who := c.Intn(2)
			call := c.call(who)
			calls, whose = append(calls, call), append(whose, who)
			was = append(was, x.do(t, who, call))
		}
		for range 3 {
			y, other := newWorld(t, im, snug()), newWorld(t, im, snug())
			for i, call := range calls {
				if got := y.ask(whose[i], call); !like(got, was[i]) {
					t.Fatalf("call %d: %+v, and the first time %+v", i, short(got), short(was[i]))
				}
				other.ask(whose[len(whose)-1-i], calls[len(calls)-1-i])
			}
			if !slices.Equal(x.d.History(), y.d.History()) {
				t.Fatal("other things were done to the disk")
			}
		}
	}
}
