package dir_test

import (
	"math"
	"slices"
	"strconv"
	"strings"
	"testing"

	"undercroft/api"
	"undercroft/chart"
	"undercroft/dir"
	"undercroft/rack"
	"undercroft/room"
)

// sizes are numbers of slots at which something new begins: a block, the single index block, the double one and what is below it.
var sizes = []int{0, 1, 2, 3, 62, 63, 64, 65, 127, 128, 129, 639, 640, 641, 703, 704, 705, 17023, 17024, 17025, 17087, 17088}

// P19.5: slots from below the first to behind the last, told by themselves: which are refused, by how much the size grows, that one slot has changed and no other.
func TestSetSlots(t *testing.T) {
	x := e(7, "new")
	for _, n := range sizes {
		l := many(4, n)
		begin := made(t, ten(t)).lists(4, l...)
		for _, slot := range []int{-2, -1, 0, 1, n / 2, n - 2, n - 1, n, n + 1, n + 2, n + 64, math.MinInt, math.MaxInt, far(0)} {
			w := newWorld(t, begin)
			ok(t, w.l.Begin(8))
			want, after := api.OK, slices.Clone(l)
			switch {
			case slot < 0 || slot > n:
				want = api.ErrArg
			case slot == n:
				after = append(after, x)
			default:
				after[slot] = x
			}
			if err := dir.Set(w.l, 4, slot, x); err != want {
				t.Fatalf("%d slots: Set(%d): %d, not %d", n, slot, err, want)
			}
			if got, err := dir.Slots(w.l, 4); !slices.Equal(got, after) || err != api.OK {
				t.Fatalf("%d slots, behind Set(%d): %s, %d", n, slot, shown(got...), err)
			}
			if node, err := rack.Read(w.l, 4); int(node.Size) != 16*len(after) || node.Kind != api.KindDir || node.Links != 2 || err != api.OK {
				t.Fatalf("%d slots, behind Set(%d): the inode is %v, %d", n, slot, node, err)
			}
		}
	}
}

// P19.5: the same by all that the account has: a slot that is there, one behind the last, one that is freed, and what is behind that; in directories that stand beside others.
func TestSetAll(t *testing.T) {
	for _, n := range sizes {
		begin := made(t, layout(t, 500, 32, 60)).lists(4, many(4, n)...).lists(5, many(5, 70)...).lists(20, many(20, 64)...)
		w := newWorld(t, begin)
		for _, slot := range []int{0, n / 2, n - 1, n, n + 1, n + 2, n + 1} {
			w.do(t, step(8, setting(4, slot, e(9, "new"+strconv.Itoa(slot)))))
		}
		w.do(t, step(1, setting(4, n/2, free)), step(8, setting(4, n+3, free)), step(1, setting(4, n/2, free)))
		w.do(t, asking(4), asking(5), asking(20), asking(1))
		w.agree(t)
		w.sound(t)
		w.do(t, syncing())
		w.onDisk(t)
	}
}

// P19.5: each kind of entry that may not be, ahead of a slot that is there, behind the last one, and with no room; a slot that may not be comes first.
func TestSetEntries(t *testing.T) {
	begin := made(t, ten(t)).lists(4, many(4, 64)...)
	for _, left := range []*account{begin, begin.copied().leave(0)} {
		for _, x := range []struct {
			e    api.Entry
			want api.Errno
		}{
			{e(2, ""), api.ErrInval},
			{e(0, "x"), api.ErrInval},
			{e(0, "/"), api.ErrInval},
			{e(0, "fifteen letters"), api.ErrInval},
			{e(2, "a/b"), api.ErrInval},
			{e(2, "/"), api.ErrInval},
			{e(2, "a\x00"), api.ErrInval},
			{e(2, "\x00"), api.ErrInval},
			{e(2, "fifteen letters"), api.ErrName},
			{e(65535, strings.Repeat("x", 15)), api.ErrName},
			{e(2, strings.Repeat("/", 15)), api.ErrInval},
			{e(2, strings.Repeat("x", 40)+"\x00"), api.ErrInval},
		} {
			w := newWorld(t, left)
			w.do(t, beginning(8))
			was := w.still()
			for slot, want := range map[int]api.Errno{-1: api.ErrArg, 0: x.want, 2: x.want, 63: x.want, 64: x.want, 65: api.ErrArg} {
				if err := dir.Set(w.l, 4, slot, x.e); err != want {
					t.Errorf("Set(%d, %s): %d, not %d", slot, shown(x.e), err, want)
				}
			}
			w.stays(t, was)
		}
	}
}

// P19.5: each entry that may be: the least and the greatest numbers, names of each length and of whatever bytes, names that stand elsewhere, its own names and a free slot.
func TestSetAnyEntry(t *testing.T) {
	w := newWorld(t, made(t, ten(t)).lists(4, many(4, 10)...))
	l := []api.Entry{e(1, "a"), e(255, "a"), e(256, "a"), e(65535, "a"), e(4, "."), e(1, ".."), e(9, "n3"), free}
	for n := 1; n <= 14; n++ {
		l = append(l, e(300+n, strings.Repeat("y", n)))
	}
	for b := 1; b < 256; b++ {
		if b != '/' {
			l = append(l, e(b, "b"+string([]byte{byte(b)})))
		}
	}
	for i, x := range l {
		slot := []int{3, 10 + i, 0, 1, 9}[i%5]
		slot = min(slot, len(w.a.slots(4)))
		w.do(t, step(4, setting(4, slot, x)), listing(4))
		if x != free {
			w.do(t, finding(4, x.Name))
		}
	}
	w.agree(t)
	w.sound(t)
}

// P19.5: which blocks are written, and no others: the slot's; behind the last slot also the inode's, and what Map writes.
func TestWhatIsWritten(t *testing.T) {
	for _, x := range []struct {
		name    string
		n, slot int
		group   []int
	}{
		{"the first slot", 64, 0, []int{899}},
		{"the last slot", 64, 63, []int{899}},
		{"the first of the second block", 66, 64, []int{898}},
		{"one below the single index block", 700, 650, []int{888}},
		{"behind the last, in a block that is mapped", 63, 63, []int{899, 33}},
		{"behind the last but one of a second block", 65, 65, []int{898, 33}},
		{"behind the last, below the single index block", 650, 650, []int{888, 33}},
		{"a new block", 64, 64, []int{37, 39, 33}},
		{"the last direct block", 576, 576, []int{37, 39, 33}},
		{"the first below the single index block", 640, 640, []int{37, 39, 40, 33}},
		{"one more below it", 704, 704, []int{37, 39, 889, 33}},
		{"the first below the double index block", 17024, 17024, []int{37, 39, 40, 41, 33}},
		{"another below the double index block", 17024 + 256*64, 17024 + 256*64, []int{37, 39, 40, 632, 33}},
		{"the first of a directory without slots", 0, 0, []int{37, 39, 33}},
	} {
		begin := made(t, layout(t, 900, 32, 60)).lists(4, many(4, x.n)...)
		w := newWorld(t, begin)
		w.do(t, beginning(len(x.group)), setting(4, x.slot, e(9, "new")))
		t.Log(x.name)
		w.wrote(t, x.group...)
		w.sound(t)
		// Again, though nothing changes by it; and freed.
		at := w.a.at(4, x.slot/64)
		w.do(t, step(1, setting(4, x.slot, e(9, "new"))))
		w.wrote(t, at)
		w.do(t, step(1, setting(4, x.slot, free)))
		w.wrote(t, at)
		w.sound(t)
	}
}

// P19.5: the inode's block is its own, also where that is another one.
func TestInodeIsWritten(t *testing.T) {
	for inum, at := range map[int]int{15: 33, 16: 34, 31: 34, 32: 35, 60: 36} {
		w := newWorld(t, made(t, ten(t)).lists(inum, many(inum, 5)...))
		w.do(t, step(2, setting(inum, 5, e(9, "new"))))
		w.wrote(t, at, 399)
		w.do(t, step(1, setting(inum, 3, free)))
		w.wrote(t, 399)
		w.sound(t)
	}
}

// sheets is a disk of a bitmap of many blocks, on which just one block is free by each of the last n of them; there is a directory of some slots.
func sheets(t testing.TB, n, slots int) *account {
	t.Helper()
	a := made(t, layout(t, (n+1)*8192, 32, 20))
	a.lists(4, many(4, slots)...)
	var full api.Block
	for i := range full {
		full[i] = 255
	}
	for i := range n + 1 {
		b := full
		if i > 0 {
			b[500+i] &^= 1
		}
		a.now[a.where.BitsAt+i] = b
	}
	return a
}

// P19.5: what the caller reserves is enough, and less is not: 1 where the slot is there; else 1 for the inode, 1 for the block, and where that is taken its index blocks and a block of the bitmap for each block that is taken.
func TestReservation(t *testing.T) {
	for _, x := range []struct{ n, slot, taken, enough int }{
		{64, 5, 0, 1},
		{63, 63, 0, 2},
		{64, 64, 1, 3},
		{640, 640, 2, 5},
		{704, 704, 1, 4}, // the single index block is there, and is written
		{17024, 17024, 3, 7},
		{17088, 17088, 1, 4}, // likewise the one below the double one
	} {
		begin := sheets(t, max(1, x.taken), x.n)
		for r := 1; r <= x.enough; r++ {
			w := newWorld(t, begin)
			ok(t, w.l.Begin(r))
			err := dir.Set(w.l, 4, x.slot, e(9, "new"))
			if want := map[bool]api.Errno{true: api.OK, false: api.ErrTight}[r == x.enough]; err != want {
				t.Fatalf("%d slots: Set(%d) in a step of %d: %d, not %d", x.n, x.slot, r, err, want)
			}
			if err == api.OK && w.l.Used() != x.enough {
				t.Fatalf("%d slots: Set(%d) changed %d blocks, not %d", x.n, x.slot, w.l.Used(), x.enough)
			}
			if s, n, err := dir.Find(w.l, 4, "new"); r == x.enough && (s != x.slot || n != 9 || err != api.OK) {
				t.Fatalf("%d slots: Set(%d) in a step of %d is found: %d, %d, %d", x.n, x.slot, r, s, n, err)
			}
		}
	}
}

// P19.5: ErrTight of a step that may change too few blocks, each number of them from one on: what was changed ahead of that is changed, and nothing else; the step goes on.
func TestTight(t *testing.T) {
	for _, n := range []int{0, 2, 63, 64, 65, 640, 641, 704, 17024} {
		begin := made(t, ten(t)).lists(4, many(4, n)...).lists(20, many(20, 3)...)
		for r := 1; r <= 7; r++ {
			for others := range 4 { // blocks that the step has changed already, the later ones such as Set wants to change too
				w := newWorld(t, begin)
				w.do(t, beginning(r))
				for i := range min(others, r) {
					at := []int{50, 33, 37}[i]
					w.do(t, changing(at, w.a.now[at]))
				}
				w.do(t, setting(4, n, e(9, "new")))
				w.agree(t)
				w.do(t, setting(20, 1, e(9, "new")), setting(20, 3, e(9, "newer")), setting(4, n/2, free))
				w.agree(t)
				w.do(t, ending(), asking(4), asking(20), syncing())
				w.onDisk(t)
			}
		}
	}
}

// P19.5: an ErrTight where the slot is there changes nothing at all; where the size alone has no room left the slot is not there yet.
func TestTightStays(t *testing.T) {
	w := newWorld(t, made(t, ten(t)).lists(4, many(4, 5)...))
	w.do(t, beginning(1), changing(50, mark(1)))
	was := w.still()
	for slot := range 5 {
		if err := dir.Set(w.l, 4, slot, e(9, "new")); err != api.ErrTight {
			t.Errorf("Set(%d): %d", slot, err)
		}
	}
	w.stays(t, was)
	w.do(t, ending(), beginning(1), setting(4, 5, e(9, "new")), listing(4), spotting(4), finding(4, "new"), ending())
	if slot, _, err := dir.Spot(w.l, 4); slot != 5 || err != api.OK {
		t.Errorf("Spot: %d, %d", slot, err)
	}
}

// P19.5: with each number of free blocks from none to more than enough: ErrNoSpace with one too few, which changes nothing; what is mapped needs none.
func TestNoSpace(t *testing.T) {
	for n, need := range map[int]int{0: 1, 2: 0, 63: 0, 64: 1, 65: 0, 576: 1, 640: 2, 641: 0, 704: 1, 17024: 3, 17025: 0, 17088: 1} {
		for left := range need + 2 {
			w := newWorld(t, made(t, ten(t)).lists(4, many(4, n)...).leave(left))
			w.do(t, beginning(8))
			was := w.still()
			want := api.OK
			if left < need {
				want = api.ErrNoSpace
			}
			if err := dir.Set(w.l, 4, n, e(9, "new")); err != want {
				t.Fatalf("%d slots, %d free: %d, not %d", n, left, err, want)
			}
			if want != api.OK {
				w.stays(t, was)
				if s, k, err := dir.Spot(w.l, 4); s != n || k != need || err != api.OK {
					t.Fatalf("%d slots, %d free: Spot: %d, %d, %d", n, left, s, k, err)
				}
			} else if got, err := room.Free(w.l); got != left-need || err != api.OK {
				t.Fatalf("%d slots, %d free: %d are left, %d", n, left, got, err)
			}
		}
		// The slots that are there are set with nothing free.
		w := newWorld(t, made(t, ten(t)).lists(4, many(4, n)...).leave(0))
		for _, slot := range []int{0, n / 2, n - 1} {
			if slot >= 0 && slot < n {
				w.do(t, step(1, setting(4, slot, e(9, "new")), setting(4, slot, free), spotting(4)))
			}
		}
		w.agree(t)
	}
}

// P19.6: what Spot says is what Set takes, and what was set there is found; slot by slot, from two on to behind the second block below the double index block's first.
func TestSpotIsTaken(t *testing.T) {
	for _, n := range []int{2, 60, 630, 700, 17020, 17080} {
		w := newWorld(t, made(t, ten(t)).lists(4, many(4, n)...))
		for i := range 12 {
			name := "new" + strconv.Itoa(i)
			slot, need, err := dir.Spot(w.l, 4)
			was, e1 := room.Free(w.l)
			ok(t, err, e1)
			if slot != n+i {
				t.Fatalf("%d slots: Spot: %d", n+i, slot)
			}
			w.do(t, step(8, setting(4, slot, e(9+i, name))))
			left, err := room.Free(w.l)
			if left != was-need || err != api.OK {
				t.Fatalf("%d slots: %d blocks were free, %d needed, %d are left", n+i, was, need, left)
			}
			if s, k, err := dir.Find(w.l, 4, name); s != slot || k != 9+i || err != api.OK {
				t.Fatalf("%d slots: Find: %d, %d, %d", n+i, s, k, err)
			}
			if need, err := chart.Need(w.l, 4, slot/64, 1); need != 0 || err != api.OK {
				t.Fatalf("%d slots: %d blocks are needed still, %d", n+i, need, err)
			}
		}
		// A slot that is freed is the next one, and takes none.
		for _, slot := range []int{n + 11, n + 1, 1, 0} {
			w.do(t, step(1, setting(4, slot, free)))
			if s, need, err := dir.Spot(w.l, 4); s != slot || need != 0 || err != api.OK {
				t.Fatalf("%d is free: Spot: %d, %d, %d", slot, s, need, err)
			}
		}
		for _, slot := range []int{0, 1, n + 1, n + 11} {
			s, need, err := dir.Spot(w.l, 4)
			was, e1 := room.Free(w.l)
			w.do(t, step(1, setting(4, s, e(8, "again"+strconv.Itoa(slot)))))
			left, e2 := room.Free(w.l)
			ok(t, err, e1, e2)
			if s != slot || need != 0 || left != was {
				t.Fatalf("%d is free: Spot: %d, %d; %d and %d blocks are free", slot, s, need, was, left)
			}
		}
		w.agree(t)
		w.sound(t)
	}
}

// P19.6: from two slots on, entry by entry, to many blocks; each one is found where it was set, in this directory and no other.
func TestGrows(t *testing.T) {
	w := newWorld(t, made(t, ten(t)).lists(4, many(4, 2)...).lists(5, many(5, 2)...))
	for i := 2; i < 720; i++ {
		w.do(t, step(8, setting(4, i, e(i, "f"+strconv.Itoa(i)))))
		if i%3 == 0 {
			w.do(t, step(8, setting(5, i/3+1, e(i, "g"+strconv.Itoa(i)))))
		}
	}
	for i := 2; i < 720; i += 7 {
		w.do(t, finding(4, "f"+strconv.Itoa(i)), finding(5, "f"+strconv.Itoa(i)), finding(5, "g"+strconv.Itoa(i)))
	}
	w.do(t, asking(4), asking(5), asking(1))
	w.agree(t)
	w.sound(t)
	w.do(t, syncing())
	w.onDisk(t)
}
