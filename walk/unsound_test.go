package walk_test

import (
	"math"
	"math/rand"
	"slices"
	"testing"

	"undercroft/api"
	"undercroft/walk"
)

// refused asks whether Beneath is ErrInval, with nothing beside it.
func (w *world) refused(t *testing.T, what string, dir, inum int) {
	t.Helper()
	was := w.still()
	if is, err := walk.Beneath(w.l, dir, inum); is || err != api.ErrInval {
		t.Errorf("%s: Beneath(%d, %d): %t, %d", what, dir, inum, is, err)
	}
	w.stays(t, was)
}

// says asks what Beneath is.
func (w *world) says(t *testing.T, what string, dir, inum int, want bool) {
	t.Helper()
	if is, err := walk.Beneath(w.l, dir, inum); is != want || err != api.OK {
		t.Errorf("%s: Beneath(%d, %d): %t, %d", what, dir, inum, is, err)
	}
}

// P21.4: a directory without .. on the way up; what is met ahead of it is true all the same.
func TestNoParent(t *testing.T) {
	for name, slots := range map[string][]api.Entry{
		"no slots":         nil,
		"one slot":         {e(2, ".")},
		"free slots":       {{}, {}},
		"another name":     {e(2, "."), e(1, "...")},
		"its own name too": {e(2, "."), e(2, ".")},
		"upper entries":    {e(2, "."), {}, e(3, "e")},
	} {
		tr := chapters(t)
		tr.items[2].slots = slots
		w := grown(t, tr)
		w.refused(t, name, 1, 2)
		w.refused(t, name, 1, 3)
		w.refused(t, name, 3, 2)
		w.says(t, name, 2, 3, true)
		w.says(t, name, 2, 2, true)
		w.says(t, name, 3, 3, true)
		w.says(t, name, 2, 1, false)
		if inum, err := walk.Find(w.l, []string{"d", ".."}); inum != 0 || err != api.ErrNoEnt {
			t.Errorf("%s: Find of d and ..: %d, %d", name, inum, err)
		}
		if inum, err := walk.Find(w.l, []string{"d"}); inum != 2 || err != api.OK {
			t.Errorf("%s: Find of d: %d, %d", name, inum, err)
		}
	}
}

// P21.4: the entry .. is found in whatever slot it stands; the root's own is not asked for.
func TestParentElsewhere(t *testing.T) {
	tr := mixed(t)
	tr.items[7].slots = append([]api.Entry{{}, e(7, ".")}, append(slices.Repeat([]api.Entry{e(4, "f")}, 90), e(6, ".."))...)
	tr.items[1].slots[1] = e(7, "..")
	tr.items[1].slots[0] = e(8, ".")
	w := grown(t, tr)
	for _, dir := range []int{1, 3, 6, 7} {
		w.says(t, "behind ninety slots", dir, 7, true)
	}
	w.says(t, "behind ninety slots", 8, 7, false)
	w.says(t, "the root with another ..", 7, 1, false)
	w.says(t, "the root with another ..", 8, 1, false)
	tr.items[1].slots = nil
	w = grown(t, tr)
	w.says(t, "the root without slots", 7, 1, false)
	w.says(t, "the root without slots", 1, 7, true)
}

// ring is a tree with directories of which each one's parent is the next, the last one's the first.
func ring(t *testing.T, long int) *tree {
	tr := planted(layout(t, 1400, 32, 900))
	tr.mkdir(1, "a") // 2
	for i := range long {
		tr.items[3+i] = &item{kind: api.KindDir, links: 2, slots: []api.Entry{e(3+i, "."), e(3+(i+1)%long, "..")}}
	}
	tr.items[3+long] = &item{kind: api.KindDir, links: 2, slots: []api.Entry{e(3+long, "."), e(3, "..")}} // from beneath into the ring
	tr.enter(1, e(3, "ring"))
	return tr
}

// P21.4: one that is its own parent, two that are each other's, and longer rings: ErrInval when one comes twice, true if dir is met ahead of that.
func TestRings(t *testing.T) {
	for _, long := range []int{1, 2, 3, 10, 800} {
		w := grown(t, ring(t, long))
		for _, in := range []int{3, 3 + long/2, 3 + long - 1, 3 + long} {
			w.refused(t, "a ring", 1, in)
			w.refused(t, "a ring", 2, in)
			w.says(t, "in the ring", 3, in, true)
			w.says(t, "in the ring", 3+long-1, in, true)
			w.says(t, "in the ring", 3+long/2, in, true)
			w.says(t, "outside of the ring", in, 1, false)
			w.says(t, "outside of the ring", in, 2, false)
		}
		w.says(t, "beneath the ring", 3+long, 3+long, true)
		w.refused(t, "beneath the ring", 3+long, 3)
		up := append([]string{"ring"}, slices.Repeat([]string{".."}, 2000)...)
		if inum, err := walk.Find(w.l, up); inum != 3+2000%long || err != api.OK {
			t.Errorf("a ring of %d: Find: %d, %d", long, inum, err)
		}
	}
}

// Rule 8: .. that lead to what is no directory, free, or not there.
func TestStrangeParents(t *testing.T) {
	for name, up := range map[string]int{"a file": 4, "free": 40, "the greatest": 60, "one too many": 61, "far too many": 65535} {
		tr := chapters(t)
		tr.items[2].slots[1] = e(up, "..")
		w := grown(t, tr)
		w.refused(t, name, 1, 2)
		w.refused(t, name, 1, 3)
		w.says(t, name, 2, 3, true)
		want := up
		if inum, err := walk.Find(w.l, []string{"d", ".."}); inum != want || err != api.OK {
			t.Errorf("%s: Find of d and ..: %d, %d", name, inum, err)
		}
		for _, last := range []string{"x", ".", ".."} {
			if inum, err := walk.Find(w.l, []string{"d", "..", last}); inum != 0 || err != api.ErrNotDir {
				t.Errorf("%s: Find of d, .. and %s: %d, %d", name, last, inum, err)
			}
			if inum, n, err := walk.Parent(w.l, []string{"d", "..", last}); inum != 0 || n != "" || err != api.ErrNotDir {
				t.Errorf("%s: Parent of d, .. and %s: %d, %q, %d", name, last, inum, n, err)
			}
		}
	}
}

// Rule 8: a root that is no directory: nothing is found but itself.
func TestStrangeRoot(t *testing.T) {
	for _, kind := range []api.Kind{api.KindFree, api.KindFile, 3, 258, 65535} {
		tr := chapters(t)
		tr.items[1].kind = kind
		w := grown(t, tr)
		if inum, err := walk.Find(w.l, nil); inum != 1 || err != api.OK {
			t.Errorf("a root of kind %d: Find of no names: %d, %d", kind, inum, err)
		}
		for _, names := range [][]string{{"d"}, {"."}, {"x", "y"}} {
			if inum, err := walk.Find(w.l, names); inum != 0 || err != api.ErrNotDir {
				t.Errorf("a root of kind %d: Find(%s): %d, %d", kind, shown(names), inum, err)
			}
			if inum, name, err := walk.Parent(w.l, names); inum != 0 || name != "" || err != api.ErrNotDir {
				t.Errorf("a root of kind %d: Parent(%s): %d, %q, %d", kind, shown(names), inum, name, err)
			}
		}
		for _, two := range [][2]int{{1, 1}, {1, 2}, {2, 1}} {
			if is, err := walk.Beneath(w.l, two[0], two[1]); is || err != api.ErrNotDir {
				t.Errorf("a root of kind %d: Beneath of %v: %t, %d", kind, two, is, err)
			}
		}
	}
}

// Rule 8: a block number that is no data block's is ErrInval where a directory is looked through.
func TestBadNumbers(t *testing.T) {
	for _, at := range []uint32{1, 33, 37, 400, 1 << 20, math.MaxUint32} {
		tr := chapters(t)
		tr.items[2].spoil = func(n *api.Node) { n.Direct[0] = at }
		w := grown(t, tr)
		for _, names := range [][]string{{"d", "e"}, {"d", ".."}, {"d", "x"}, {"d", "e", "x"}} {
			if inum, err := walk.Find(w.l, names); inum != 0 || err != api.ErrInval {
				t.Errorf("block %d: Find(%s): %d, %d", at, shown(names), inum, err)
			}
		}
		if inum, name, err := walk.Parent(w.l, []string{"d", "e"}); inum != 2 || name != "e" || err != api.OK {
			t.Errorf("block %d: Parent of d and e: %d, %q, %d", at, inum, name, err)
		}
		if inum, name, err := walk.Parent(w.l, []string{"d", "e", "x"}); inum != 0 || name != "" || err != api.ErrInval {
			t.Errorf("block %d: Parent of d, e and x: %d, %q, %d", at, inum, name, err)
		}
		w.refused(t, "a bad block", 1, 2)
		w.refused(t, "a bad block", 1, 3)
		w.says(t, "ahead of a bad block", 2, 3, true)
	}
}

// calm asks that all calls end, and that nothing stands beside an error.
func (w *world) calm(t testing.TB, names []string, a, b int) {
	t.Helper()
	if inum, err := walk.Find(w.l, names); inum < 0 || inum > 65535 || err != api.OK && inum != 0 {
		t.Fatalf("Find(%s): %d, %d", shown(names), inum, err)
	}
	if inum, name, err := walk.Parent(w.l, names); inum < 0 || inum > 65535 || err != api.OK && (inum != 0 || name != "") {
		t.Fatalf("Parent(%s): %d, %q, %d", shown(names), inum, name, err)
	}
	if is, err := walk.Beneath(w.l, a, b); is && err != api.OK {
		t.Fatalf("Beneath(%d, %d): %t, %d", a, b, is, err)
	}
}

// Rule 8: whatever the entries lead to, every call ends, and none writes.
func TestAnyEntries(t *testing.T) {
	r := rand.New(rand.NewSource(2121))
	words := []string{".", "..", "a", "b"}
	for range 200 {
		tr := &tree{where: layout(t, 300, 32, 40), items: map[int]*item{}}
		for inum := 1; inum <= 40; inum++ {
			x := &item{kind: api.Kind([]int{0, 1, 2, 2, 2, 2, 2, 2, 3}[r.Intn(9)]), links: r.Intn(4), size: r.Intn(17)}
			for range r.Intn(6) {
				x.slots = append(x.slots, e(r.Intn(43), words[r.Intn(4)]))
			}
			tr.items[inum] = x
		}
		tr.items[1].kind = api.KindDir
		w := grown(t, tr)
		was := w.still()
		for range 100 {
			var names []string
			for range r.Intn(8) {
				names = append(names, words[r.Intn(4)])
			}
			w.calm(t, names, r.Intn(43)-1, r.Intn(43)-1)
		}
		w.stays(t, was)
	}
}

// Rule 8: whatever bytes a disk has, every call ends, and none writes.
func TestAnyBytes(t *testing.T) {
	r := rand.New(rand.NewSource(212121))
	for range 60 {
		tr := &tree{where: layout(t, 60, 32, 40), items: map[int]*item{1: {kind: api.KindDir, links: 2, slots: []api.Entry{e(1, "."), e(2, "..")}}}}
		w := grown(t, tr)
		ok(t, w.l.Begin(31))
		for at := tr.where.NodeAt; at < 60; at++ {
			b, err := w.l.Read(at)
			ok(t, err)
			for i := range b {
				if at == tr.where.NodeAt && i < 128 {
					continue // the root stays
				}
				b[i] = []byte{byte(r.Intn(256)), byte(r.Intn(3)), 0, []byte{byte(40 + r.Intn(20)), 0, 0, 0}[i%4]}[r.Intn(4)]
				if at < tr.where.BitsAt && i%64 < 4 {
					b[i] = []byte{2, 0, 1, 0}[i%4]
				}
			}
			ok(t, w.l.Write(at, b))
		}
		was := w.still()
		for range 60 {
			w.calm(t, [][]string{{".."}, {"."}, {"..", ".."}, {"a", "..", "b"}, {".", "x"}}[r.Intn(5)], r.Intn(43)-1, r.Intn(43)-1)
		}
		w.stays(t, was)
	}
}
