package walk_test

import (
	"math"
	"math/rand"
	"slices"
	"strconv"
	"strings"
	"testing"

	"undercroft/api"
	"undercroft/dir"
	"undercroft/wal"
	"undercroft/walk"
)

// far is like n in its lower 32 bits; it is n itself where an int has no others.
func far(n int) int { return int(int64(n) + 1<<32) }

// chapters is the tree of the chapter's examples: /d is 2, /d/e 3, /f a file, 4.
func chapters(t testing.TB) *tree {
	t.Helper()
	tr := planted(ten(t))
	tr.mkdir(1, "d")
	tr.mkdir(2, "e")
	tr.mkfile(1, "f")
	return tr
}

// mixed is a tree with all that a sound disk may have: several depths, files of two names, free slots, directories of several blocks, orphans.
func mixed(t testing.TB) *tree {
	t.Helper()
	tr := chapters(t)
	tr.mkfile(3, "f")                    // 5
	tr.mkdir(3, "d")                     // 6: /d/e/d
	tr.mkdir(6, "e")                     // 7: /d/e/d/e
	tr.link(4, 7, "f")                   // /f once more
	tr.mkdir(1, "e")                     // 8: /e
	tr.mkdir(8, "gone")                  // 9
	tr.mkfile(8, "lost")                 // 10
	tr.mkdir(9, "below")                 // 11
	tr.unlink(9, "below")                // its parent is an orphan too, below
	tr.unlink(8, "gone")                 //
	tr.unlink(8, "lost")                 //
	tr.mkdir(8, strings.Repeat("n", 14)) // 12, in a slot that was free
	tr.mkdir(8, "...")                   // 13
	tr.mkdir(8, "moved")                 // 14
	tr.mkdir(14, "d")                    // 15
	tr.move(8, "moved", 7, "moved")      // /d/e/d/e/moved/d
	tr.mkdir(1, "wide")                  // 16
	for i := range 700 {
		tr.link(5, 16, "n"+strconv.Itoa(i))
	}
	tr.mkdir(16, "d") // 17, behind all of them
	for i := range 100 {
		tr.unlink(16, "n"+strconv.Itoa(7*i))
	}
	tr.mkdir(17, "e") // 18
	return tr
}

// Chapter 21's examples, call by call.
func TestExamples(t *testing.T) {
	w := grown(t, chapters(t))
	was := w.still()
	for _, c := range []struct {
		names string
		inum  int
		err   api.Errno
	}{
		{"", 1, 0}, {"d", 2, 0}, {"d e", 3, 0}, {"d e .. .", 2, 0}, {"..", 1, 0},
		{"x", 0, 5}, {"d x", 0, 5}, {"f", 4, 0}, {"f .", 0, 7}, {"f x", 0, 7}, {"x y", 0, 5},
		{"x abcdefghijklmno", 0, 12},
	} {
		if inum, err := walk.Find(w.l, strings.Fields(c.names)); inum != c.inum || err != c.err {
			t.Errorf("Find of %q: %d, %d", c.names, inum, err)
		}
	}
	if inum, err := walk.Find(w.l, []string{"d", ""}); inum != 0 || err != 4 {
		t.Errorf("Find of d and no bytes: %d, %d", inum, err)
	}
	for _, c := range []struct {
		names string
		inum  int
		name  string
		err   api.Errno
	}{
		{"", 0, "", 4}, {"x", 1, "x", 0}, {"d x", 2, "x", 0}, {"d", 1, "d", 0}, {"f x", 0, "", 7}, {"x y", 0, "", 5},
	} {
		if inum, name, err := walk.Parent(w.l, strings.Fields(c.names)); inum != c.inum || name != c.name || err != c.err {
			t.Errorf("Parent of %q: %d, %q, %d", c.names, inum, name, err)
		}
	}
	for _, c := range []struct {
		dir, inum int
		is        bool
		err       api.Errno
	}{
		{1, 3, true, 0}, {2, 3, true, 0}, {3, 3, true, 0}, {3, 2, false, 0}, {2, 4, false, 7},
	} {
		if is, err := walk.Beneath(w.l, c.dir, c.inum); is != c.is || err != c.err {
			t.Errorf("Beneath(%d, %d): %t, %d", c.dir, c.inum, is, err)
		}
	}
	w.stays(t, was)
}

// someLists are lists of names, such that may be and such that may not.
func someLists() [][]string {
	return [][]string{nil, {}, {"d"}, {"d", "e"}, {"x"}, {"x", "y"}, {"f", "x"}, {"."}, {".."}, {""}, {"d", ""}, {"fifteen letters"}, {"a/b"}, {"\x00"}, {"d", "e", "x", "a/b"}, slices.Repeat([]string{"."}, 2000)}
}

// someInums are numbers of inodes, those that are there and others.
func someInums() []int {
	return []int{1, 2, 3, 4, 5, 16, 59, 60, 61, 62, 64, 0, -1, -2, -60, math.MinInt, math.MinInt + 1, 1 << 16, 1<<16 + 1, 1<<16 + 2, far(1), far(2), math.MaxInt - 1, math.MaxInt}
}

// refusesAll asks whether all calls are an error, with nothing beside it.
func refusesAll(t *testing.T, l *wal.Log, want api.Errno) {
	t.Helper()
	for _, names := range someLists() {
		if inum, err := walk.Find(l, names); inum != 0 || err != want {
			t.Errorf("Find(%s): %d, %d, not %d", shown(names), inum, err, want)
		}
		if inum, name, err := walk.Parent(l, names); inum != 0 || name != "" || err != want {
			t.Errorf("Parent(%s): %d, %q, %d, not %d", shown(names), inum, name, err, want)
		}
	}
	for _, a := range someInums() {
		for _, b := range someInums() {
			if is, err := walk.Beneath(l, a, b); is || err != want {
				t.Errorf("Beneath(%d, %d): %t, %d, not %d", a, b, is, err, want)
			}
		}
	}
}

// P21.1, rule 4: logs that are nil or that nobody made, whatever the arguments.
func TestNoLog(t *testing.T) {
	for _, open := range []bool{false, true} {
		w := grown(t, chapters(t))
		if open {
			ok(t, w.l.Begin(9))
		}
		copied := *w.l
		was := w.still()
		for _, l := range []*wal.Log{nil, {}, &copied} {
			refusesAll(t, l, api.ErrNil)
		}
		w.stays(t, was)
	}
}

// P21.1, rule 4: a log that is closed is as one that nobody made, also where its disk has stopped or is claimed anew.
func TestClosedLog(t *testing.T) {
	for _, then := range []func(w *world){
		func(w *world) {},
		func(w *world) { w.d.Fuse(0); w.d.Barrier() },
		func(w *world) { w.d.Claim() },
		func(w *world) { w.d.Crash(nil) },
	} {
		w := grown(t, chapters(t))
		ok(t, w.l.Close())
		then(w)
		refusesAll(t, w.l, api.ErrNil)
	}
}

// P21.1, rule 7: a log whose disk has stopped or whose claim is over, whatever the arguments, in a step and outside; what was read ahead of it, too.
func TestDeadLog(t *testing.T) {
	for name, die := range map[string]func(w *world){
		"stopped by a barrier": func(w *world) { w.d.Fuse(0); w.d.Barrier() },
		"stopped by a write":   func(w *world) { w.d.Fuse(0); w.d.Write(40, api.Block{}) },
		"claimed":              func(w *world) { w.d.Claim() },
		"another log":          func(w *world) { wal.New(w.d, w.tr.where) },
		"power":                func(w *world) { w.d.Crash(nil) },
		"power, another log":   func(w *world) { w.d.Crash(nil); wal.New(w.d, w.tr.where) },
	} {
		for _, open := range []bool{false, true} {
			w := grown(t, chapters(t))
			w.both(t, "d", "e", "..", "..", "f")
			w.every(t, 1, 2, 3, 4)
			if open {
				ok(t, w.l.Begin(3))
			}
			die(w)
			made := w.d.Made()
			refusesAll(t, w.l, api.ErrDead)
			if w.d.Made() != made {
				t.Errorf("%s: %d things were done to the disk", name, w.d.Made()-made)
			}
		}
	}
}

// P21.2, P21.3: all lists of a few names: own names, others that are there and that are not, and such that may not be.
func TestLists(t *testing.T) {
	for _, tr := range []*tree{planted(ten(t)), chapters(t), mixed(t)} {
		w := grown(t, tr)
		was := w.still()
		for names := range lists(5, "d", "e", "f", "x", ".", "..") {
			w.both(t, names...)
		}
		for names := range lists(3, "d", "e", "f", "x", ".", "..", "", "fifteen letters", "a/b", "/", "d\x00", "gone", "wide", "n7", "n8", "...", "n699") {
			w.both(t, names...)
		}
		w.stays(t, was)
	}
}

// P21.2: the first name that has an error is told, ahead of names that are not there and of what is no directory, wherever it stands.
func TestNamesFirst(t *testing.T) {
	w := grown(t, mixed(t))
	bads := []string{"", "/", "a/b", "\x00", "d\x00", "\x00d", strings.Repeat("x", 15), strings.Repeat("/", 15), strings.Repeat("x", 15) + "\x00", strings.Repeat("x", 5000), "fifteen letters"}
	for _, b := range bads {
		for _, other := range append(bads, "d", "x", "f", ".", "..") {
			for _, names := range [][]string{
				{b}, {b, other}, {other, b}, {"x", b}, {b, "x"}, {"f", "x", b}, {"f", b}, {"x", "y", "z", b, other}, {"d", "e", b, other}, {"d", other, "e", b}, {other, "x", "d", b},
			} {
				want := bad(names)
				if want == api.OK {
					t.Fatalf("%q may be", names)
				}
				if inum, err := walk.Find(w.l, names); inum != 0 || err != want {
					t.Errorf("Find(%s): %d, %d, not %d", shown(names), inum, err, want)
				}
				if inum, name, err := walk.Parent(w.l, names); inum != 0 || name != "" || err != want {
					t.Errorf("Parent(%s): %d, %q, %d, not %d", shown(names), inum, name, err, want)
				}
			}
		}
	}
}

// P21.2: names of every byte and of each length are those of their own entries, alone.
func TestEveryName(t *testing.T) {
	tr := planted(layout(t, 3000, 32, 2000))
	var all []string
	for b := 1; b < 256; b++ {
		if b != '/' && b != '.' {
			all = append(all, string([]byte{byte(b)}), string([]byte{'.', byte(b)}), "thirteen byte"+string([]byte{byte(b)}))
		}
	}
	for n := 2; n <= 14; n++ {
		all = append(all, strings.Repeat("x", n))
	}
	at := map[string]int{}
	for _, name := range all {
		at[name] = tr.mkdir(1, name)
	}
	w := grown(t, tr)
	for _, name := range all {
		if inum := w.find(t, name); inum != at[name] {
			t.Fatalf("Find(%q): %d, not %d", name, inum, at[name])
		}
		w.both(t, name, "..", name, ".")
		w.both(t, name, name)
		w.both(t, name[1:])
		w.both(t, name+"/")
		w.both(t, name+"\x00")
		w.both(t, name+" ")
	}
}

// P21.2: own names at the beginning, in the middle and at the end; .. of the root is the root.
func TestOwnNames(t *testing.T) {
	w := grown(t, mixed(t))
	for _, c := range []struct {
		names string
		want  int
	}{
		{".", 1}, {"..", 1}, {"../..", 1}, {"../../..", 1}, {"./..", 1}, {"../.", 1}, {"../d", 2}, {"./d/.", 2}, {"d/..", 1}, {"d/../..", 1},
		{"d/../d/../d", 2}, {"d/e/d/e", 7}, {"d/e/d/e/..", 6}, {"d/e/d/e/../..", 3}, {"d/./e/./d/.", 6}, {"d/e/d/e/f", 4}, {"d/e/d/e/moved/d", 15}, {"d/e/d/e/moved/..", 7}, {"e/.../..", 8}, {"wide/d/e/../../..", 1},
	} {
		if inum := w.find(t, strings.Split(c.names, "/")...); inum != c.want {
			t.Errorf("Find(%s): %d, not %d", c.names, inum, c.want)
		}
	}
	for _, c := range []struct {
		names string
		want  int
		last  string
	}{
		{".", 1, "."}, {"..", 1, ".."}, {"d/.", 2, "."}, {"d/..", 2, ".."}, {"d/../x", 1, "x"}, {"d/e/../x", 2, "x"}, {"../x", 1, "x"}, {"./f", 1, "f"}, {"d/e/.", 3, "."},
	} {
		if inum, name, err := walk.Parent(w.l, strings.Split(c.names, "/")); inum != c.want || name != c.last || err != api.OK {
			t.Errorf("Parent(%s): %d, %q, %d", c.names, inum, name, err)
		}
	}
}

// P21.4: every two inodes of trees: the root, directories in directories, files, free inodes, orphans, numbers out of range.
func TestEveryTwo(t *testing.T) {
	for _, tr := range []*tree{planted(ten(t)), chapters(t), mixed(t)} {
		w := grown(t, tr)
		was := w.still()
		for a := -2; a <= 62; a++ {
			for b := -2; b <= 62; b++ {
				w.beneath(t, a, b)
			}
		}
		w.every(t, someInums()...)
		w.stays(t, was)
	}
}

// P21.4: what each of the two is, told by itself: dir's number ahead of inum's, both numbers ahead of both kinds.
func TestBeneathErrors(t *testing.T) {
	w := grown(t, mixed(t))
	for _, c := range []struct {
		name      string
		dir, inum int
		is        bool
		err       api.Errno
	}{
		{"a file, and no inode", 4, 61, false, api.ErrArg},
		{"no inode, and a file", 0, 4, false, api.ErrArg},
		{"an orphan, and no inode", 9, 0, false, api.ErrArg},
		{"the root, and no inode", 1, -1, false, api.ErrArg},
		{"a number of more than 16 bits", 1, 1<<16 + 2, false, api.ErrArg},
		{"a number of more than 32 bits", far(1), 2, int64(math.MaxInt) == math.MaxInt32, map[bool]api.Errno{true: api.OK, false: api.ErrArg}[int64(math.MaxInt) == math.MaxInt32]},
		{"a file twice", 4, 4, false, api.ErrNotDir},
		{"an orphan twice", 9, 9, false, api.ErrNotDir},
		{"a file that is an orphan", 1, 10, false, api.ErrNotDir},
		{"a free inode twice", 40, 40, false, api.ErrNotDir},
		{"an orphan beneath the root", 1, 9, false, api.ErrNotDir},
		{"an orphan beneath its parent, an orphan", 9, 11, false, api.ErrNotDir},
		{"an orphan beneath its parent", 8, 9, false, api.ErrNotDir},
		{"the root beneath an orphan", 9, 1, false, api.ErrNotDir},
		{"the greatest inode, free", 1, 60, false, api.ErrNotDir},
		{"the root beneath itself", 1, 1, true, api.OK},
		{"the root beneath another", 2, 1, false, api.OK},
		{"a sister", 2, 8, false, api.OK},
		{"of the same name", 2, 6, true, api.OK},
		{"moved there", 7, 15, true, api.OK},
		{"moved away", 8, 15, false, api.OK},
		{"from far below", 1, 15, true, api.OK},
		{"not so far below", 6, 15, true, api.OK},
	} {
		if is, err := walk.Beneath(w.l, c.dir, c.inum); is != c.is || err != c.err {
			t.Errorf("%s: Beneath(%d, %d): %t, %d", c.name, c.dir, c.inum, is, err)
		}
	}
}

// All calls in a step see what the step has made; nothing is written by them, and no step is begun or ended; behind the step and the sync it is the same.
func TestInStep(t *testing.T) {
	w := grown(t, chapters(t))
	see := func() {
		t.Helper()
		was := w.still()
		for names := range lists(4, "d", "e", "f", "new", "..") {
			w.both(t, names...)
		}
		w.every(t, 0, 1, 2, 3, 4, 5, 6, 7, 60, 61)
		w.stays(t, was)
	}
	see()
	for _, changes := range [][]func(tr *tree){
		{func(tr *tree) { tr.mkdir(2, "new") }, func(tr *tree) { tr.mkdir(5, "d") }, func(tr *tree) { tr.mkfile(6, "f") }},
		{func(tr *tree) { tr.move(2, "e", 6, "e") }, func(tr *tree) { tr.unlink(1, "f") }},
		{func(tr *tree) { tr.move(2, "new", 1, "f") }, func(tr *tree) { tr.unlink(6, "e") }, func(tr *tree) { tr.unlink(6, "f") }},
	} {
		ok(t, w.l.Begin(31))
		for _, change := range changes {
			w.change(t, change)
			see()
		}
		ok(t, w.l.End())
		see()
	}
	ok(t, w.l.Sync())
	see()
	again, err := wal.New(w.d, w.tr.where)
	ok(t, err)
	w.l = again
	see()
}

// P21.5: . changes nothing; a name and .. lead back; names one behind the other are the first ones and then the others.
func TestFollows(t *testing.T) {
	w := grown(t, mixed(t))
	for names := range lists(4, "d", "e", "f", "moved", "..") {
		inum, err := walk.Find(w.l, names)
		if err != api.OK || !w.tr.isDir(inum) {
			continue
		}
		for i := range len(names) + 1 {
			with := slices.Insert(slices.Clone(names), i, ".")
			if got, err := walk.Find(w.l, with); got != inum || err != api.OK {
				t.Fatalf("Find(%s): %d, %d, not %d", shown(with), got, err, inum)
			}
			// The parts are one behind the other.
			if first, err := walk.Find(w.l, names[:i]); err != api.OK {
				t.Fatalf("Find(%s): %d", shown(names[:i]), err)
			} else if rest, err := w.tr.from(first, names[i:]); rest != inum || err != api.OK {
				t.Fatalf("%s, from %d on: %d, %d, not %d", shown(names[i:]), first, rest, err, inum)
			}
		}
		for _, x := range w.tr.items[inum].slots {
			if x.Inum == 0 || x.Name == "." || x.Name == ".." || !w.tr.isDir(int(x.Inum)) {
				continue
			}
			back := append(slices.Clone(names), x.Name, "..")
			if got, err := walk.Find(w.l, back); got != inum || err != api.OK {
				t.Fatalf("Find(%s): %d, %d, not %d", shown(back), got, err, inum)
			}
		}
	}
}

// Directories one in the other, hundreds deep; and long lists.
func TestDeep(t *testing.T) {
	const depth = 600
	tr := planted(layout(t, 1000, 32, 700))
	at := []int{1}
	for i := range depth {
		at = append(at, tr.mkdir(at[i], "d"))
	}
	leaf := tr.mkfile(at[depth], "f")
	w := grown(t, tr)
	down := slices.Repeat([]string{"d"}, depth)
	if inum := w.find(t, down...); inum != at[depth] {
		t.Errorf("%d deep: %d, not %d", depth, inum, at[depth])
	}
	w.both(t, append(slices.Clone(down), "f")...)
	w.both(t, append(slices.Clone(down), "f", "x")...)
	w.both(t, append(slices.Clone(down), "x")...)
	w.both(t, append(slices.Clone(down), "d", "d", "")...)
	w.both(t, slices.Concat(down, slices.Repeat([]string{".."}, depth+50), down[:7])...)
	w.both(t, slices.Repeat([]string{"d", ".", "..", "d"}, depth)...)
	some := []int{0, 1, 2, 15, 16, 299, 300, depth - 1, depth}
	for _, i := range some {
		for _, j := range some {
			if is, err := walk.Beneath(w.l, at[i], at[j]); is != (i <= j) || err != api.OK {
				t.Errorf("Beneath of the depths %d and %d: %t, %d", i, j, is, err)
			}
		}
		w.beneath(t, at[i], leaf)
	}
}

// The first and the last inodes of some regions.
func TestInodes(t *testing.T) {
	for _, inodes := range []int{3, 15, 16, 17, 32, 65535} {
		tr := planted(layout(t, 5000, 32, inodes))
		tr.items[inodes] = &item{kind: api.KindDir, links: 2, slots: []api.Entry{e(inodes, "."), e(1, "..")}}
		tr.enter(1, e(inodes, "last"))
		tr.items[1].links++
		tr.mkdir(inodes, "d")
		w := grown(t, tr)
		w.both(t, "last", "d")
		w.both(t, "last", "d", "..", "..", "last", ".")
		w.every(t, -1, 0, 1, 2, 3, 14, 15, 16, 17, inodes-1, inodes, inodes+1, 1<<16, 1<<16+1, far(1), far(inodes))
	}
}

// Trees of any form, names of any kind.
func TestAnyTree(t *testing.T) {
	r := rand.New(rand.NewSource(21))
	words := []string{"a", "b", "c", "d"}
	for range 60 {
		tr := planted(layout(t, 300, 32, 40))
		for range 30 {
			grow(r, tr, words)
		}
		w := grown(t, tr)
		was := w.still()
		for range 150 {
			var names []string
			for range r.Intn(9) {
				names = append(names, append(words, ".", "..", "..", "x")[r.Intn(8)])
			}
			if r.Intn(20) == 0 {
				names = append(names, []string{"", "a/b", "fifteen letters"}[r.Intn(3)])
			}
			w.both(t, names...)
		}
		for a := range 42 {
			for b := range 42 {
				w.beneath(t, a, b)
			}
		}
		w.stays(t, was)
	}
}

// grow does something to a tree that calls may do.
func grow(r *rand.Rand, tr *tree, words []string) {
	var dirs []int
	for inum := range 41 {
		if tr.isDir(inum) && tr.items[inum].links > 0 {
			dirs = append(dirs, inum)
		}
	}
	at, name := dirs[r.Intn(len(dirs))], words[r.Intn(len(words))]
	found, err := tr.search(at, name)
	switch {
	case err != api.OK && r.Intn(4) > 0:
		tr.mkdir(at, name)
	case err != api.OK:
		tr.mkfile(at, name)
	case !tr.isDir(found):
		tr.unlink(at, name)
	case len(slices.DeleteFunc(slices.Clone(tr.items[found].slots), func(x api.Entry) bool { return x.Inum == 0 })) == 2:
		tr.unlink(at, name)
	default:
		to, other := dirs[r.Intn(len(dirs))], words[r.Intn(len(words))]
		under, _ := tr.beneath(found, to)
		if _, err := tr.search(to, other); err != api.OK && !under {
			tr.move(at, name, to, other)
		}
	}
}

// Rule 6: what other logs do changes nothing.
func TestOtherLogs(t *testing.T) {
	a, b := grown(t, chapters(t)), grown(t, mixed(t))
	for names := range lists(3, "d", "e", "f", "..") {
		a.both(t, names...)
		b.both(t, names...)
	}
	b.d.Crash(nil)
	a.both(t, "d", "e", "..")
	refusesAll(t, b.l, api.ErrDead)
	a.every(t, 1, 2, 3, 4)
}

// P21.5: Find agrees with dir.Find, name by name, where the directory is a great one.
func TestWide(t *testing.T) {
	w := grown(t, mixed(t))
	for i := range 702 {
		name := "n" + strconv.Itoa(i)
		_, want, wantErr := dir.Find(w.l, 16, name)
		if inum, err := walk.Find(w.l, []string{"wide", name}); inum != want || err != wantErr {
			t.Fatalf("Find of wide and %s: %d, %d, not %d, %d", name, inum, err, want, wantErr)
		}
		w.both(t, "wide", name)
		w.both(t, "wide", name, "..")
	}
	w.both(t, "wide", "d", "e", "..", "..", "n699")
}

// Names of any bytes, cut at strokes.
func FuzzNames(f *testing.F) {
	for _, s := range []string{"", "d", "d/e/..", "x/y", "f/.", "d//e", "d/fifteen letters", "wide/n8", "e/.../..", "\x00/d"} {
		f.Add(s)
	}
	f.Fuzz(func(t *testing.T, s string) {
		w := grown(t, mixed(t))
		w.both(t, strings.Split(s, "/")...)
		w.both(t, s)
	})
}
