package fds_test

import (
	"iter"
	"slices"
	"testing"

	"undercroft/api"
	"undercroft/fds"
)

// some is a table of eight that holds 0, 2, 3 and 6.
func some(t testing.TB) (*fds.Table[string], []pair[string]) {
	t.Helper()
	f := fds.New[string](8)
	for _, v := range []string{"a", "b", "c", "d", "e", "f", "g"} {
		f.Open(v)
	}
	for _, fd := range []int{5, 1, 4} {
		if _, err := f.Close(fd); err != api.OK {
			t.Fatalf("Close(%d): %d", fd, err)
		}
	}
	return f, []pair[string]{{0, "a"}, {2, "c"}, {3, "d"}, {6, "g"}}
}

// Rising order, whatever is held of seven numbers and whatever was closed first; the same each time.
func TestAllRises(t *testing.T) {
	const most = 7
	for set := range 1 << most {
		for _, down := range []bool{false, true} {
			w := watch[int](most)
			for i := range most {
				w.open(t, 100+i)
			}
			for i := range most {
				fd := i
				if down {
					fd = most - 1 - i
				}
				if set>>fd&1 == 0 {
					w.close(t, fd)
				}
			}
			for range 3 {
				w.check(t, numbers...)
			}
		}
	}
}

// An iterator is never nil, not of an empty table, of one for no number, nor of one that holds nothing any more.
func TestAllOfNothing(t *testing.T) {
	for _, most := range []int{-3, 0, 2} {
		f := fds.New[int](most)
		for range 3 {
			all := f.All()
			if all == nil {
				t.Fatalf("of %d: nil", most)
			}
			f.Open(7)
			if l := listed(all); len(l) != 0 {
				t.Fatalf("of %d: made of a table that held nothing: %v", most, l)
			}
			f.Close(0)
			if l := listed(f.All()); len(l) != 0 {
				t.Fatalf("of %d: of a table that holds nothing any more: %v", most, l)
			}
		}
	}
}

// Rule 5: it goes over what was there at the call, whatever is called ahead of the going over.
func TestAllStays(t *testing.T) {
	changes := map[string]func(f *fds.Table[string]){
		"nothing":        func(f *fds.Table[string]) {},
		"one opened":     func(f *fds.Table[string]) { f.Open("x") },
		"many opened":    func(f *fds.Table[string]) { f.Open("x"); f.Open("y"); f.Open("z"); f.Open("u") },
		"the first set":  func(f *fds.Table[string]) { f.Set(0, "x") },
		"the last set":   func(f *fds.Table[string]) { f.Set(6, "x") },
		"the first gone": func(f *fds.Table[string]) { f.Close(0) },
		"the last gone":  func(f *fds.Table[string]) { f.Close(6) },
		"opened anew":    func(f *fds.Table[string]) { f.Close(2); f.Open("x"); f.Open("y") },
		"all gone": func(f *fds.Table[string]) {
			for fd := range f.All() {
				f.Close(fd)
			}
		},
		"all set": func(f *fds.Table[string]) {
			for fd := range f.All() {
				f.Set(fd, "x")
			}
		},
		"refused":       func(f *fds.Table[string]) { f.Set(1, "x"); f.Close(7); f.Get(-1) },
		"another All":   func(f *fds.Table[string]) { listed(f.All()) },
		"asked":         func(f *fds.Table[string]) { f.Len(); f.Full(); f.Get(2) },
		"made no table": func(f *fds.Table[string]) { *f = fds.Table[string]{} },
		"another's put": func(f *fds.Table[string]) { *f = *fds.New[string](3) },
	}
	for what, change := range changes {
		f, want := some(t)
		all := f.All()
		change(f)
		for i := range 3 {
			if l := listed(all); !slices.Equal(l, want) {
				t.Errorf("%s: gone over %d times: %v", what, i, l)
			}
			change(f)
		}
	}
}

// The table is changed within the loop: the loop goes on as if it were not, and the table has the changes.
func TestAllWhileChanging(t *testing.T) {
	f, want := some(t)
	var l []pair[string]
	for fd, v := range f.All() {
		l = append(l, pair[string]{fd, v})
		f.Close(3)
		f.Set(6, v+"!")
		f.Open("x" + v)
	}
	if !slices.Equal(l, want) {
		t.Errorf("within the loop: %v", l)
	}
	// 1 is given out in the first round, and in each one behind it 3, which was closed just ahead of that.
	if got := listed(f.All()); !slices.Equal(got, []pair[string]{{0, "a"}, {1, "xa"}, {2, "c"}, {3, "xg"}, {6, "g!"}}) {
		t.Errorf("behind the loop: %v", got)
	}
}

// Each one is closed within the loop, as whoever ends would do.
func TestCloseAllInTheLoop(t *testing.T) {
	f, want := some(t)
	n := 0
	for fd, v := range f.All() {
		if got, err := f.Close(fd); got != v || err != api.OK {
			t.Fatalf("Close(%d): %q, %d", fd, got, err)
		}
		n++
		if f.Len() != len(want)-n {
			t.Fatalf("Len: %d", f.Len())
		}
	}
	if n != len(want) || f.Len() != 0 {
		t.Errorf("%d were gone over, %d are held", n, f.Len())
	}
	if fd, err := f.Open("x"); fd != 0 || err != api.OK {
		t.Errorf("Open behind the loop: %d, %d", fd, err)
	}
}

// It may be stopped at each place, asks no more then, and may be gone over again, wholly or in part.
func TestAllStopped(t *testing.T) {
	f, want := some(t)
	all := f.All()
	for stop := 1; stop <= len(want)+1; stop++ {
		for range 2 {
			var l []pair[string]
			all(func(fd int, v string) bool {
				l = append(l, pair[string]{fd, v})
				return len(l) < stop
			})
			if !slices.Equal(l, want[:min(stop, len(want))]) {
				t.Errorf("stopped at %d: %v", stop, l)
			}
		}
		if l := listed(all); !slices.Equal(l, want) {
			t.Errorf("gone over again behind a stop at %d: %v", stop, l)
		}
		if l := listed(f.All()); !slices.Equal(l, want) {
			t.Errorf("another one behind a stop at %d: %v", stop, l)
		}
	}
}

// Goings over do not disturb each other: one within the other, and two side by side.
func TestAllTwice(t *testing.T) {
	f, want := some(t)
	all := f.All()
	var outer []pair[string]
	for fd, v := range all {
		outer = append(outer, pair[string]{fd, v})
		if l := listed(all); !slices.Equal(l, want) {
			t.Errorf("within: %v", l)
		}
	}
	if !slices.Equal(outer, want) {
		t.Errorf("around: %v", outer)
	}
	first, stopFirst := iter.Pull2(all)
	defer stopFirst()
	second, stopSecond := iter.Pull2(all)
	defer stopSecond()
	for _, p := range want {
		a, v, ok := first()
		b, u, also := second()
		if !ok || !also || (pair[string]{a, v}) != p || (pair[string]{b, u}) != p {
			t.Errorf("side by side: %d %q %v, %d %q %v", a, v, ok, b, u, also)
		}
		f.Close(p.fd)
	}
	if _, _, ok := first(); ok {
		t.Error("the first goes on behind the last one")
	}
	if _, _, ok := second(); ok {
		t.Error("the second goes on behind the last one")
	}
}

// Iterators of several times each tell of their own.
func TestAllOfEachTime(t *testing.T) {
	w := watch[int](12)
	var alls []iter.Seq2[int, int]
	var wants [][]pair[int]
	keep := func() {
		alls, wants = append(alls, w.t.All()), append(wants, w.a.all())
	}
	keep()
	for i := range 80 {
		switch {
		case i%3 == 2:
			w.close(t, i*7%12)
		case i%5 == 1:
			w.set(t, i*5%12, 1000+i)
		default:
			w.open(t, i)
		}
		keep()
	}
	for i := range alls {
		if l := listed(alls[i]); !slices.Equal(l, wants[i]) {
			t.Errorf("behind %d calls: %v, not %v", i, l, wants[i])
		}
	}
}
