package dir_test

import (
	"math"
	"math/rand"
	"slices"
	"strconv"
	"strings"
	"testing"

	"undercroft/api"
	"undercroft/dir"
	"undercroft/rack"
	"undercroft/wal"
)

// e is an entry.
func e(inum int, name string) api.Entry { return api.Entry{Inum: uint16(inum), Name: name} }

// free is a free slot.
var free = api.Entry{}

// many are n slots of a directory: its own two, then entries of unlike names.
func many(inum, n int) []api.Entry {
	l := []api.Entry{e(inum, "."), e(1, "..")}
	for i := 2; i < n; i++ {
		l = append(l, e(1+i%60, "n"+strconv.Itoa(i)))
	}
	return l[:n]
}

// freed are slots of which some are free.
func freed(l []api.Entry, slots ...int) []api.Entry {
	l = slices.Clone(l)
	for _, slot := range slots {
		l[slot] = free
	}
	return l
}

// Chapter 19's examples, call by call.
func TestExamples(t *testing.T) {
	w := newWorld(t, made(t, ten(t)))
	lists := func(want ...api.Entry) {
		t.Helper()
		if l, err := dir.Slots(w.l, 1); !slices.Equal(l, want) || err != api.OK {
			t.Errorf("Slots: %s, %d", shown(l...), err)
		}
	}
	finds := func(name string, slot, inum int, err api.Errno) {
		t.Helper()
		if s, n, e := dir.Find(w.l, 1, name); s != slot || n != inum || e != err {
			t.Errorf("Find(%q): %d, %d, %d", name, s, n, e)
		}
	}
	spots := func(slot, need int) {
		t.Helper()
		if s, n, err := dir.Spot(w.l, 1); s != slot || n != need || err != api.OK {
			t.Errorf("Spot: %d, %d, %d", s, n, err)
		}
	}
	empty := func(want bool) {
		t.Helper()
		if is, err := dir.Empty(w.l, 1); is != want || err != api.OK {
			t.Errorf("Empty: %t, %d", is, err)
		}
	}
	sets := func(slot int, x api.Entry, err api.Errno) {
		t.Helper()
		if got := dir.Set(w.l, 1, slot, x); got != err {
			t.Errorf("Set(%d, %s): %d", slot, shown(x), got)
		}
	}
	lists(e(1, "."), e(1, ".."))
	finds(".", 0, 1, api.OK)
	finds("..", 1, 1, api.OK)
	finds("a", 0, 0, api.ErrNoEnt)
	finds("", 0, 0, api.ErrInval)
	finds("abcdefghijklmno", 0, 0, api.ErrName)
	spots(2, 0)
	empty(true)
	ok(t, w.l.Begin(2))
	sets(2, e(2, "a"), api.OK)
	if n, err := rack.Read(w.l, 1); n.Size != 48 || err != api.OK {
		t.Errorf("the size is %d, %d", n.Size, err)
	}
	sets(4, e(2, "b"), api.ErrArg)
	sets(-1, e(2, "b"), api.ErrArg)
	ok(t, w.l.End())
	finds("a", 2, 2, api.OK)
	spots(3, 0)
	empty(false)
	ok(t, w.l.Begin(1))
	sets(2, free, api.OK)
	ok(t, w.l.End())
	lists(e(1, "."), e(1, ".."), free)
	spots(2, 0)
	sets(2, e(2, "a"), api.ErrStep)
	for inum, want := range map[int]api.Errno{0: api.ErrArg, 2: api.ErrNotDir} {
		if l, err := dir.Slots(w.l, inum); len(l) != 0 || err != want {
			t.Errorf("Slots(%d): %s, %d", inum, shown(l...), err)
		}
	}
	w = newWorld(t, made(t, ten(t)).lists(1, many(1, 64)...))
	spots(64, 1)
}

// refusesAll asks whether all five calls are an error, with nothing beside it.
func refusesAll(t testing.TB, l *wal.Log, inum int, want api.Errno) {
	for _, name := range someNames() {
		if s, n, err := dir.Find(l, inum, name); s != 0 || n != 0 || err != want {
			t.Fatalf("Find(%d, %q): %d, %d, %d, not %d", inum, name, s, n, err, want)
		}
	}
	if all, err := dir.Slots(l, inum); len(all) != 0 || err != want {
		t.Fatalf("Slots(%d): %s, %d, not %d", inum, shown(all...), err, want)
	}
	if s, n, err := dir.Spot(l, inum); s != 0 || n != 0 || err != want {
		t.Fatalf("Spot(%d): %d, %d, %d, not %d", inum, s, n, err, want)
	}
	if is, err := dir.Empty(l, inum); is || err != want {
		t.Fatalf("Empty(%d): %t, %d, not %d", inum, is, err, want)
	}
	refusesSet(t, l, inum, want)
}

// refusesSet asks whether Set is an error, whatever the slot and the entry.
func refusesSet(t testing.TB, l *wal.Log, inum int, want api.Errno) {
	for _, slot := range someSlots() {
		for _, x := range someEntries() {
			if err := dir.Set(l, inum, slot, x); err != want {
				t.Fatalf("Set(%d, %d, %s): %d, not %d", inum, slot, shown(x), err, want)
			}
		}
	}
}

// The arguments that are asked with each other: numbers of inodes, names, slots, entries.
func someInums() []int {
	return []int{1, 2, 3, 4, 5, 59, 60, 61, 62, 64, 0, -1, -2, -60, math.MinInt, math.MinInt + 1, 1 << 16, 1<<16 + 1, far(1), math.MaxInt - 1, math.MaxInt}
}

func someNames() []string {
	return []string{"", "a", ".", "..", "...", "n2", "a/b", "/", "a\x00", "\x00", strings.Repeat("x", 14), strings.Repeat("x", 15), strings.Repeat("/", 15), strings.Repeat("x", 14) + "\x00", strings.Repeat("x", 3000)}
}

// someSlots are also those at which sixteen times a slot wraps round.
func someSlots() []int {
	shift := 60
	return []int{0, 1, 2, 3, 4, 5, 6, 64, -1, -2, -16, math.MinInt, math.MinInt + 1, api.MaxFile / 16, 1 << 27, 1 << 28, 1<<28 + 1, 1 << shift, 1<<shift + 2, far(0), far(2), math.MaxInt - 1, math.MaxInt}
}

func someEntries() []api.Entry {
	l := []api.Entry{free, e(0, "x"), e(0, "/"), e(0, strings.Repeat("x", 15))}
	for _, name := range someNames() {
		l = append(l, e(2, name), e(65535, name))
	}
	return l
}

// greatest is a disk with a directory of four slots, one of them free, a file without a name, a directory without one, and a directory as the greatest inode.
func greatest(t testing.TB) *account {
	t.Helper()
	a := made(t, ten(t)).lists(4, freed(many(4, 4), 2)...).lists(60, many(60, 3)...)
	a.has(3, api.Node{Kind: api.KindFile, Size: 5})
	a.has(5, api.Node{Kind: api.KindDir})
	return a
}

// P19.1: all arguments with each other, in a step and outside.
func TestArguments(t *testing.T) {
	for _, open := range []bool{false, true} {
		w := newWorld(t, greatest(t))
		for _, inum := range someInums() {
			if open {
				w.do(t, beginning(31))
			}
			for _, name := range someNames() {
				w.do(t, finding(inum, name))
			}
			w.do(t, asking(inum))
			for _, slot := range someSlots() {
				for _, x := range someEntries() {
					w.do(t, setting(inum, slot, x))
				}
			}
			w.do(t, asking(inum))
			if open {
				w.do(t, ending())
			}
		}
		w.agree(t)
		w.sound(t)
	}
}

// P19.1: each error ahead of those behind it, told by itself; Set with no step ahead of whatever the directory is.
func TestOrder(t *testing.T) {
	for _, open := range []bool{false, true} {
		w := newWorld(t, greatest(t))
		if open {
			w.do(t, beginning(5))
		}
		was := w.still()
		for inum, want := range map[int]api.Errno{-1: api.ErrArg, 0: api.ErrArg, 61: api.ErrArg, math.MaxInt: api.ErrArg, math.MinInt: api.ErrArg, 1<<16 + 1: api.ErrArg, 2: api.ErrNotDir, 3: api.ErrNotDir, 6: api.ErrNotDir, 59: api.ErrNotDir} {
			if open {
				refusesAll(t, w.l, inum, want)
				continue
			}
			refusesSet(t, w.l, inum, api.ErrStep)
			if _, _, err := dir.Find(w.l, inum, ""); err != want {
				t.Errorf("Find(%d): %d, not %d", inum, err, want)
			}
			if _, err := dir.Slots(w.l, inum); err != want {
				t.Errorf("Slots(%d): %d, not %d", inum, err, want)
			}
			if _, _, err := dir.Spot(w.l, inum); err != want {
				t.Errorf("Spot(%d): %d, not %d", inum, err, want)
			}
			if _, err := dir.Empty(w.l, inum); err != want {
				t.Errorf("Empty(%d): %d, not %d", inum, err, want)
			}
		}
		if !open {
			refusesSet(t, w.l, 1, api.ErrStep)
		}
		w.stays(t, was)
	}
}

// P19.1, rule 4: logs that are nil or that nobody made, whatever the arguments.
func TestNoLog(t *testing.T) {
	for _, open := range []bool{false, true} {
		w := newWorld(t, greatest(t))
		if open {
			w.do(t, beginning(9))
		}
		copied := *w.l
		was := w.still()
		for _, l := range []*wal.Log{nil, {}, &copied} {
			for _, inum := range someInums() {
				refusesAll(t, l, inum, api.ErrNil)
			}
		}
		w.stays(t, was)
	}
}

// P19.1, rule 4: a log that is closed is as one that nobody made, also where its disk has stopped or is claimed anew.
func TestClosedLog(t *testing.T) {
	for _, then := range []func(w *world){
		func(w *world) {},
		func(w *world) { w.d.Fuse(0); w.d.Barrier() },
		func(w *world) { w.d.Claim() },
		func(w *world) { w.d.Crash(nil) },
	} {
		w := newWorld(t, greatest(t))
		w.do(t, step(3, setting(1, 2, e(2, "a"))))
		ok(t, w.l.Close())
		then(w)
		made := w.d.Made()
		for _, inum := range someInums() {
			refusesAll(t, w.l, inum, api.ErrNil)
		}
		if w.d.Made() != made {
			t.Errorf("%d things were done to the disk", w.d.Made()-made)
		}
	}
}

// P19.1, rule 7: a log whose disk has stopped or whose claim is over, whatever the arguments; with a step open and without.
func TestDeadLog(t *testing.T) {
	for name, die := range map[string]func(w *world){
		"stopped by a barrier": func(w *world) { w.d.Fuse(0); w.d.Barrier() },
		"stopped by a write":   func(w *world) { w.d.Fuse(0); w.d.Write(40, api.Block{}) },
		"claimed":              func(w *world) { w.d.Claim() },
		"another log":          func(w *world) { newLog(t, w.d, w.a.where) },
		"power":                func(w *world) { w.d.Crash(nil) },
		"power, another log":   func(w *world) { w.d.Crash(nil); newLog(t, w.d, w.a.where) },
	} {
		for _, open := range []bool{false, true} {
			w := newWorld(t, greatest(t))
			w.do(t, step(3, setting(1, 2, e(2, "a"))))
			if open {
				w.do(t, beginning(3))
			}
			die(w)
			made := w.d.Made()
			for _, inum := range someInums() {
				refusesAll(t, w.l, inum, api.ErrDead)
			}
			if w.d.Made() != made {
				t.Errorf("%s: %d things were done to the disk", name, w.d.Made()-made)
			}
		}
	}
}

// The numbers of the errors.
func TestErrorNumbers(t *testing.T) {
	is := func(err api.Errno, want int) {
		t.Helper()
		if int(err) != want {
			t.Errorf("%d, not %d", int(err), want)
		}
	}
	w := newWorld(t, made(t, ten(t)).lists(1, many(1, 64)...).lists(4, many(4, 2)...).leave(0))
	_, _, err := dir.Find(w.l, 1, "nobody")
	is(err, 5)
	_, _, err = dir.Find(w.l, 1, "fifteen letters")
	is(err, 12)
	is(dir.Set(nil, 1, 0, free), 1)
	is(dir.Set(w.l, 1, 0, free), 180)
	ok(t, w.l.Begin(1))
	is(dir.Set(w.l, 0, 0, free), 2)
	is(dir.Set(w.l, 1, 65, free), 2)
	is(dir.Set(w.l, 2, 0, free), 7)
	is(dir.Set(w.l, 1, 64, e(2, "")), 4)
	is(dir.Set(w.l, 1, 64, e(2, "fifteen letters")), 12)
	is(dir.Set(w.l, 1, 64, e(2, "a")), 16)
	is(dir.Set(w.l, 1, 63, e(2, "a")), 0)
	is(dir.Set(w.l, 4, 0, free), 181)
	w.d.Crash(nil)
	is(dir.Set(w.l, 1, 0, free), 3)
}

// P19.1: the first and the last inode of each block of the region, and the numbers beside the greatest.
func TestInodes(t *testing.T) {
	for _, inodes := range []int{3, 14, 15, 16, 17, 31, 32, 60, 65535} {
		a := made(t, layout(t, 5000, 32, inodes))
		inums := []int{1, 2, 14, 15, 16, 17, 31, 32, 33, 255, 256, 257, 32768, inodes - 1, inodes, inodes + 1}
		for _, inum := range inums {
			if a.there(inum) && inum > 3 {
				a.lists(inum, many(inum, 2+inum%5)...)
			}
		}
		w := newWorld(t, a)
		for _, inum := range append(inums, -1, 0, 1<<16, 1<<16+1, far(1), math.MinInt) {
			w.do(t, asking(inum), finding(inum, "."), finding(inum, ".."), finding(inum, "n3"))
			w.do(t, step(9, setting(inum, 2+inum%5, e(7, "new")), finding(inum, "new")), finding(inum, "new"), asking(inum))
		}
		w.agree(t)
	}
}

// P19.2: names that may not be, whatever the directory has; and names of whatever bytes, of each length.
func TestFindNames(t *testing.T) {
	l := many(1, 5)
	var all []string
	for n := 1; n <= 14; n++ {
		all = append(all, strings.Repeat("x", n))
	}
	for b := 1; b < 256; b++ {
		if b != '/' {
			all = append(all, string([]byte{byte(b)}), "a"+string([]byte{byte(b)}), string([]byte{byte(b), byte(b), 'z'}), "thirteen byte"+string([]byte{byte(b)}))
		}
	}
	all = append(all, " ", "  ", "...", "\xff\xfe", "é", "e\u0301", "a.b", "A", "a", "N2")
	for i, name := range all {
		l = append(l, e(1+i%65535, name))
	}
	w := newWorld(t, made(t, ten(t)).lists(4, l...))
	for slot, x := range l {
		if slices.Index(l, x) != slot {
			continue
		}
		w.do(t, finding(4, x.Name), finding(4, x.Name+"/"), finding(4, x.Name+"\x00"), finding(4, "/"+x.Name), finding(4, "\x00"+x.Name))
		// What is nearly a name is another.
		w.do(t, finding(4, x.Name[1:]), finding(4, x.Name[:len(x.Name)-1]), finding(4, x.Name+"q"), finding(4, "q"+x.Name), finding(4, strings.ToUpper(x.Name)), finding(4, x.Name+" "))
		// It is that of this directory alone.
		w.do(t, finding(1, x.Name))
	}
	for _, name := range someNames() {
		w.do(t, finding(4, name), finding(1, name))
	}
}

// P19.2: numbers are told as they stand, the greatest too.
func TestFindNumbers(t *testing.T) {
	inums := []int{1, 2, 255, 256, 257, 32767, 32768, 65534, 65535}
	l := many(4, 2)
	for _, inum := range inums {
		l = append(l, e(inum, strconv.Itoa(inum)))
	}
	w := newWorld(t, made(t, ten(t)).lists(4, l...))
	for i, inum := range inums {
		if slot, n, err := dir.Find(w.l, 4, strconv.Itoa(inum)); slot != 2+i || n != inum || err != api.OK {
			t.Errorf("Find(%d): %d, %d, %d", inum, slot, n, err)
		}
	}
}

// P19.2: of two slots with one name the lesser one is told; behind its being freed the other one; a freed slot is not found, nor is a name that was overwritten.
func TestFindTwice(t *testing.T) {
	l := many(4, 200)
	l[5], l[70], l[199] = e(5, "twin"), e(6, "twin"), e(7, "twin")
	w := newWorld(t, made(t, ten(t)).lists(4, l...))
	is := func(slot, inum int, err api.Errno) {
		t.Helper()
		if s, n, e := dir.Find(w.l, 4, "twin"); s != slot || n != inum || e != err {
			t.Errorf("Find: %d, %d, %d, not %d, %d, %d", s, n, e, slot, inum, err)
		}
	}
	is(5, 5, api.OK)
	w.do(t, step(1, setting(4, 5, free)))
	is(70, 6, api.OK)
	w.do(t, step(1, setting(4, 70, e(6, "other"))))
	is(199, 7, api.OK)
	w.do(t, step(1, setting(4, 199, free)))
	is(0, 0, api.ErrNoEnt)
	w.do(t, step(1, setting(4, 5, e(9, "twin"))))
	is(5, 9, api.OK)
	w.do(t, step(1, setting(4, 4, e(8, "twin"))))
	is(4, 8, api.OK)
	w.do(t, finding(4, "other"), finding(4, "n5"), finding(4, "n4"), finding(4, "n6"), asking(4))
	w.agree(t)
}

// P19.2: the names at the beginning, the middle and the end of directories of some sizes, over all kinds of blocks.
func TestFindFar(t *testing.T) {
	for _, n := range []int{2, 3, 63, 64, 65, 128, 129, 640, 641, 642, 700, 17024, 17025, 17100} {
		l := many(4, n)
		w := newWorld(t, made(t, ten(t)).lists(4, l...))
		for slot := 0; slot < n; slot += 1 + n/40 {
			w.do(t, finding(4, l[slot].Name))
		}
		w.do(t, finding(4, l[n-1].Name), finding(4, "n"+strconv.Itoa(n)), finding(4, "n1"), asking(4))
	}
}

// P19.2, P19.3: in a step one sees what it has made, and behind it; other logs' steps there are none.
func TestInStep(t *testing.T) {
	w := newWorld(t, made(t, ten(t)).lists(4, many(4, 66)...))
	see := func() {
		t.Helper()
		for _, name := range []string{".", "a", "b", "n3", "n40", "n64", "n65"} {
			w.do(t, finding(4, name), finding(1, name))
		}
		w.do(t, asking(1), asking(4))
	}
	w.do(t, beginning(20))
	see()
	for _, x := range []act{setting(4, 66, e(9, "a")), setting(4, 3, free), setting(4, 40, e(3, "b")), setting(4, 65, free), setting(1, 2, e(5, "a")), setting(1, 3, e(5, "n3")), setting(4, 3, e(6, "n3"))} {
		w.do(t, x)
		see()
	}
	w.do(t, ending())
	see()
	w.do(t, syncing())
	see()
	w.agree(t)
	w.sound(t)
	w.onDisk(t)
}

// P19.3: directories of many sizes, with none, the first, the last, every second and all of their slots free.
func TestSlots(t *testing.T) {
	for _, n := range []int{0, 1, 2, 3, 4, 62, 63, 64, 65, 66, 127, 128, 129, 639, 640, 641, 703, 704, 705, 17024, 17025} {
		full := many(4, n)
		some := [][]api.Entry{full, make([]api.Entry, n)}
		if n > 0 && n < 1000 {
			some = append(some, freed(full, 0), freed(full, n-1), freed(full, n/2))
		}
		second := slices.Clone(full)
		for i := 1; i < n; i += 2 {
			second[i] = free
		}
		for _, l := range append(some, second) {
			w := newWorld(t, made(t, ten(t)).lists(4, l...))
			was := w.still()
			if got, err := dir.Slots(w.l, 4); !slices.Equal(got, l) || err != api.OK {
				t.Fatalf("%d slots: %s, %d", n, shown(got...), err)
			}
			w.do(t, asking(4), asking(1))
			w.stays(t, was)
		}
	}
}

// P19.3: which slots Empty looks at, told by itself.
func TestEmpty(t *testing.T) {
	x := e(9, "x")
	for _, c := range []struct {
		name  string
		slots []api.Entry
		want  bool
	}{
		{"its own two", many(4, 2), true},
		{"no slots", nil, true},
		{"one slot", many(4, 1), true},
		{"two free slots", []api.Entry{free, free}, true},
		{"entries of other names in the first two", []api.Entry{e(7, "a"), e(8, "b")}, true},
		{"an entry in slot 2", append(many(4, 2), x), false},
		{"an entry in slot 2 alone", []api.Entry{free, free, x}, false},
		{"a free slot 2", append(many(4, 2), free), true},
		{"an entry in slot 3", append(many(4, 2), free, x), false},
		{"its own names in slot 2", append(many(4, 2), e(4, ".")), false},
		{"all freed", append(many(4, 2), make([]api.Entry, 200)...), true},
		{"all freed but the last", append(append(many(4, 2), make([]api.Entry, 200)...), x), false},
		{"the last of a block", append(append(many(4, 2), make([]api.Entry, 61)...), x), false},
		{"the first of a block", append(append(many(4, 2), make([]api.Entry, 62)...), x), false},
		{"the third of a block", append(append(many(4, 2), make([]api.Entry, 64)...), x), false},
		{"far behind", append(append(many(4, 2), make([]api.Entry, 17100)...), x), false},
		{"far behind, freed", append(many(4, 2), make([]api.Entry, 17101)...), true},
	} {
		w := newWorld(t, made(t, ten(t)).lists(4, c.slots...).lists(6, many(6, 3)...))
		if is, err := dir.Empty(w.l, 4); is != c.want || err != api.OK {
			t.Errorf("%s: %t, %d", c.name, is, err)
		}
		w.do(t, asking(4))
	}
}

// P19.3: Empty as slots are set and freed.
func TestEmptyGoes(t *testing.T) {
	w := newWorld(t, made(t, ten(t)))
	is := func(want bool) {
		t.Helper()
		if got, err := dir.Empty(w.l, 1); got != want || err != api.OK {
			t.Errorf("%t, %d", got, err)
		}
	}
	is(true)
	w.do(t, step(2, setting(1, 2, e(2, "a"))))
	is(false)
	w.do(t, step(2, setting(1, 3, e(3, "b"))), step(1, setting(1, 2, free)))
	is(false)
	w.do(t, step(1, setting(1, 3, free)))
	is(true)
	w.do(t, step(2, setting(1, 4, free)))
	is(true)
	w.do(t, step(1, setting(1, 0, e(7, "c")), setting(1, 1, e(7, "d"))))
	is(true)
}

// P19.4: the least free slot, wherever it is, costs no block; with none free the one behind the last, and what that needs.
func TestSpot(t *testing.T) {
	for _, x := range []struct {
		n, need int
		free    []int
		slot    int
	}{
		{2, 0, nil, 2},
		{3, 0, nil, 3},
		{63, 0, nil, 63},
		{64, 1, nil, 64},
		{65, 0, nil, 65},
		{127, 0, nil, 127},
		{128, 1, nil, 128},
		{576, 1, nil, 576},
		{639, 0, nil, 639},
		{640, 2, nil, 640},
		{641, 0, nil, 641},
		{704, 1, nil, 704},
		{17023, 0, nil, 17023},
		{17024, 3, nil, 17024},
		{17025, 0, nil, 17025},
		{17088, 1, nil, 17088},
		{0, 1, nil, 0},
		{1, 0, nil, 1},
		{64, 0, []int{0}, 0},
		{64, 0, []int{1}, 1},
		{64, 0, []int{2}, 2},
		{64, 0, []int{63}, 63},
		{64, 0, []int{63, 20, 40}, 20},
		{65, 0, []int{64}, 64},
		{640, 0, []int{639}, 639},
		{640, 0, []int{300}, 300},
		{17024, 0, []int{17023}, 17023},
		{17024, 0, []int{700, 17000}, 700},
	} {
		w := newWorld(t, made(t, ten(t)).lists(4, freed(many(4, x.n), x.free...)...))
		was := w.still()
		if slot, need, err := dir.Spot(w.l, 4); slot != x.slot || need != x.need || err != api.OK {
			t.Errorf("%d slots, %v free: %d, %d, %d, not %d, %d", x.n, x.free, slot, need, err, x.slot, x.need)
		}
		w.stays(t, was)
	}
}

// P19.4: how many blocks are free is not asked.
func TestSpotWithoutRoom(t *testing.T) {
	for _, n := range []int{64, 640, 65} {
		a := made(t, ten(t)).lists(4, many(4, n)...).leave(0)
		w := newWorld(t, a)
		if slot, need, err := dir.Spot(w.l, 4); slot != n || need != a.need(4, n/64) || err != api.OK {
			t.Errorf("%d slots: %d, %d, %d", n, slot, need, err)
		}
	}
}

// Rule 3: an answer is its own: what is done to it, to its spare room, or later to the directory is not seen in another.
func TestAnswersAreOwn(t *testing.T) {
	w := newWorld(t, made(t, ten(t)).lists(4, many(4, 70)...))
	one, err := dir.Slots(w.l, 4)
	two, e2 := dir.Slots(w.l, 4)
	ok(t, err, e2)
	one[0] = e(9, "spoilt")
	for i := range one[:cap(one)] {
		one[:cap(one)][i] = e(9, "spoilt")
	}
	if !slices.Equal(two, many(4, 70)) {
		t.Errorf("%s", shown(two...))
	}
	w.do(t, listing(4), step(2, setting(4, 3, e(8, "later")), setting(4, 70, free)))
	if !slices.Equal(two, many(4, 70)) {
		t.Errorf("%s", shown(two...))
	}
	w.do(t, listing(4))
}

// P1, P3: asking a directory changes nothing, in a step and outside, and costs the step nothing.
func TestAskingChangesNothing(t *testing.T) {
	w := newWorld(t, made(t, ten(t)).lists(4, freed(many(4, 700), 5, 300)...))
	w.do(t, step(2, setting(1, 2, e(4, "d"))))
	for _, open := range []bool{false, true} {
		if open {
			w.do(t, beginning(1), changing(50, mark(3)))
		}
		was := w.still()
		for _, name := range someNames() {
			w.do(t, finding(4, name), finding(1, name))
		}
		w.do(t, asking(4), asking(1), finding(4, "n699"))
		w.stays(t, was)
	}
}

// Long scripts, drawn the same way each time, over three directories: all that may be asked is as the chapter says, also where no blocks are left.
func TestManyCalls(t *testing.T) {
	draw := rand.New(rand.NewSource(19))
	for range 12 {
		log, data := 32+draw.Intn(40), 4+draw.Intn(6) // of which four have owners
		a := made(t, layout(t, 1+log+2+1+data, log, 20)).lists(4, many(4, 2)...).lists(5, freed(many(5, 60+draw.Intn(10)), 7, 9)...)
		w := newWorld(t, a)
		for range 600 {
			inum := []int{1, 4, 5}[draw.Intn(3)]
			w.do(t, drawn(draw, w.a, inum))
			if draw.Intn(10) == 0 {
				w.do(t, asking(inum), finding(inum, "m"+strconv.Itoa(draw.Intn(40))))
			}
		}
		for _, inum := range []int{1, 4, 5} {
			w.do(t, asking(inum))
			for i := range 40 {
				w.do(t, finding(inum, "m"+strconv.Itoa(i)))
			}
		}
		w.agree(t)
		w.sound(t)
		w.do(t, syncing())
		w.onDisk(t)
	}
}

// drawn is a slot that is set, freed or added to a directory, or now and then a sync.
func drawn(draw *rand.Rand, a *account, inum int) act {
	x := e(1+draw.Intn(65535), "m"+strconv.Itoa(draw.Intn(40)))
	n := len(a.slots(inum))
	switch draw.Intn(12) {
	case 0:
		return syncing()
	case 1:
		return step(1, setting(inum, draw.Intn(n), free))
	case 2:
		return step(1, setting(inum, draw.Intn(n), x))
	case 3:
		return step(8, setting(inum, draw.Intn(n+4)-2, x))
	}
	slot, _, _ := a.spot(inum)
	if draw.Intn(2) == 0 {
		slot = n
	}
	return step(8, setting(inum, slot, x), finding(inum, x.Name))
}
