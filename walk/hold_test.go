package walk_test

import (
	"slices"
	"testing"
	"unsafe"

	"undercroft/api"
	"undercroft/dir"
	"undercroft/rack"
	"undercroft/walk"
)

// guarded is a copy of a list with room behind it, and what asks whether list and room are as they were.
func guarded(t testing.TB, names []string) ([]string, func()) {
	all := append(slices.Clone(names), "room", "behind", "it")
	was := slices.Clone(all)
	return all[:len(names)], func() {
		t.Helper()
		if !slices.Equal(all, was) {
			t.Fatalf("%s were handed in, and are %s", shown(was), shown(all))
		}
	}
}

// find holds Find against the account.
func (w *world) find(t testing.TB, names ...string) int {
	t.Helper()
	handed, same := guarded(t, names)
	want, wantErr := w.tr.find(names)
	inum, err := walk.Find(w.l, handed)
	if inum != want || err != wantErr {
		t.Fatalf("Find(%s): %d, %d, not %d, %d", shown(names), inum, err, want, wantErr)
	}
	same()
	return inum
}

// parent holds Parent against the account, and asks whether the name is new memory.
func (w *world) parent(t testing.TB, names ...string) {
	t.Helper()
	handed, same := guarded(t, names)
	want, wantName, wantErr := w.tr.parent(names)
	inum, name, err := walk.Parent(w.l, handed)
	if inum != want || name != wantName || err != wantErr {
		t.Fatalf("Parent(%s): %d, %q, %d, not %d, %q, %d", shown(names), inum, name, err, want, wantName, wantErr)
	}
	if name != "" && unsafe.StringData(name) == unsafe.StringData(handed[len(handed)-1]) {
		t.Fatalf("Parent(%s): the name has the bytes that were handed in", shown(names))
	}
	same()
}

// both holds Find and Parent of names against the account, and against each other (P21.5).
func (w *world) both(t testing.TB, names ...string) {
	t.Helper()
	inum := w.find(t, names...)
	w.parent(t, names...)
	d, name, err := walk.Parent(w.l, names)
	found, findErr := walk.Find(w.l, names)
	if err == api.OK {
		if _, want, wantErr := dir.Find(w.l, d, name); found != want || findErr != wantErr {
			t.Fatalf("Find(%s): %d, %d; dir.Find of its Parent: %d, %d", shown(names), found, findErr, want, wantErr)
		}
	}
	if findErr != api.OK {
		return
	}
	if n, err := rack.Read(w.l, inum); n.Kind == api.KindDir && err == api.OK {
		if is, err := walk.Beneath(w.l, 1, inum); !is || err != api.OK {
			t.Fatalf("Beneath(1, %d), which Find(%s) found: %t, %d", inum, shown(names), is, err)
		}
	}
}

// beneath holds Beneath against the account.
func (w *world) beneath(t testing.TB, dir, inum int) {
	t.Helper()
	want, wantErr := w.tr.beneath(dir, inum)
	if is, err := walk.Beneath(w.l, dir, inum); is != want || err != wantErr {
		t.Fatalf("Beneath(%d, %d): %t, %d, not %t, %d", dir, inum, is, err, want, wantErr)
	}
}

// every asks Beneath of every two of some inodes.
func (w *world) every(t testing.TB, inums ...int) {
	t.Helper()
	for _, a := range inums {
		for _, b := range inums {
			w.beneath(t, a, b)
		}
	}
}

// lists are all lists of names of these words, up to so many.
func lists(most int, words ...string) func(yield func([]string) bool) {
	return func(yield func([]string) bool) {
		var grow func(names []string) bool
		grow = func(names []string) bool {
			if !yield(slices.Clone(names)) {
				return false
			}
			if len(names) == most {
				return true
			}
			for _, w := range words {
				if !grow(append(slices.Clone(names), w)) {
					return false
				}
			}
			return true
		}
		grow(nil)
	}
}
