package fds_test

import (
	"math"
	"runtime"
	"slices"
	"testing"
	"weak"

	"undercroft/api"
	"undercroft/fds"
)

// The errors' numbers are those that the chapter names.
func TestErrors(t *testing.T) {
	f := fds.New[int](0)
	var none *fds.Table[int]
	if _, err := none.Open(7); err != 1 {
		t.Errorf("Open of no table: %d", err)
	}
	if _, err := f.Get(0); err != 13 {
		t.Errorf("Get of what is not held: %d", err)
	}
	if err := f.Set(0, 7); err != 13 {
		t.Errorf("Set of what is not held: %d", err)
	}
	if _, err := f.Close(0); err != 13 {
		t.Errorf("Close of what is not held: %d", err)
	}
	if _, err := f.Open(7); err != 14 {
		t.Errorf("Open of a full table: %d", err)
	}
}

// A table that is new holds no number, whatever it is asked for, and is full where it may hold none.
func TestNew(t *testing.T) {
	for _, most := range mosts {
		w := watch[int](most)
		if w.t == nil {
			t.Fatalf("New(%d): nil", most)
		}
		w.check(t, numbers...)
		for _, fd := range numbers {
			w.close(t, fd)
			w.set(t, fd, 7)
			w.check(t, fd)
		}
		if w.t.Full() != (most <= 0) {
			t.Errorf("New(%d): Full: %v", most, w.t.Full())
		}
		for i := range 20 {
			w.open(t, 100+i)
			w.check(t, numbers...)
		}
	}
}

// Each number below 0 counts as 0.
func TestNewBelowNought(t *testing.T) {
	for most := -70; most <= 0; most++ {
		f := fds.New[string](most)
		for range 3 {
			if fd, err := f.Open("a"); fd != 0 || err != api.ErrMfile {
				t.Errorf("New(%d): Open: %d, %d", most, fd, err)
			}
		}
		if !f.Full() || f.Len() != 0 || len(listed(f.All())) != 0 {
			t.Errorf("New(%d): Full: %v, Len: %d", most, f.Full(), f.Len())
		}
	}
}

// Open up to the most, and behind that: just so many numbers, from 0 on.
func TestOpenTillFull(t *testing.T) {
	for most := range 40 {
		w := watch[int](most)
		for i := range most {
			if w.t.Full() {
				t.Fatalf("of %d: full with %d", most, i)
			}
			if fd, err := w.open(t, 100+i); fd != i || err != api.OK {
				t.Fatalf("of %d: Open: %d, %d", most, fd, err)
			}
			w.check(t, numbers...)
		}
		for range 3 {
			if fd, err := w.open(t, 7); fd != 0 || err != api.ErrMfile || !w.t.Full() {
				t.Fatalf("of %d, full: Open: %d, %d", most, fd, err)
			}
			w.check(t, numbers...)
		}
		for i := range most {
			w.close(t, i)
			if fd, err := w.open(t, 200+i); fd != i || err != api.OK {
				t.Fatalf("of %d: Open behind Close(%d): %d, %d", most, i, fd, err)
			}
			if _, err := w.open(t, 7); err != api.ErrMfile {
				t.Fatalf("of %d: Open of what is full again: %d", most, err)
			}
			w.check(t)
		}
	}
}

// orders are the lists that have each of 0 to n - 1 once.
func orders(n int) [][]int {
	if n == 0 {
		return [][]int{{}}
	}
	var l [][]int
	for _, o := range orders(n - 1) {
		for at := range n {
			l = append(l, slices.Insert(slices.Clone(o), at, n-1))
		}
	}
	return l
}

// Which numbers are given out behind closings in each order: the least first, each once, then those that are new.
func TestClosedInEachOrder(t *testing.T) {
	const held = 5
	for _, order := range orders(held) {
		for closed := range held + 1 {
			for _, most := range []int{held, held + 2, math.MaxInt} {
				w := watch[int](most)
				for i := range held {
					w.open(t, 100+i)
				}
				for _, fd := range order[:closed] {
					w.close(t, fd)
					w.check(t)
				}
				want := slices.Sorted(slices.Values(order[:closed]))
				want = append(want, held, held+1)
				for i, wanted := range want[:min(len(want), most-held+closed)] {
					if fd, err := w.open(t, 200+i); fd != wanted || err != api.OK {
						t.Fatalf("behind closing %v: Open %d: %d, %d", order[:closed], i, fd, err)
					}
					w.check(t)
				}
			}
		}
	}
}

// Open and Close in turn: a number that was closed is given out ahead of greater ones that were closed earlier.
func TestOpenBetweenClosings(t *testing.T) {
	for _, order := range orders(5) {
		for _, again := range orders(3) {
			w := watch[int](6)
			for i := range 6 {
				w.open(t, 100+i)
			}
			for i, fd := range order {
				w.close(t, fd)
				if i%2 == 1 {
					w.open(t, 200+i)
				}
				w.check(t)
			}
			for _, fd := range again {
				w.close(t, fd)
				w.open(t, 300+fd)
				w.check(t)
			}
		}
	}
}

// Get, Set and Close of numbers that are not held: below 0, not yet given out, at the most and behind it, closed.
func TestNotHeld(t *testing.T) {
	for _, most := range []int{0, 1, 3, 16, 1000, math.MaxInt} {
		w := watch[string](most)
		for range min(most, 5) {
			w.open(t, "a")
		}
		w.close(t, 1)
		w.close(t, 4)
		asked := append(slices.Clone(numbers), most-1, most, most/2)
		if most < math.MaxInt {
			asked = append(asked, most+1)
		}
		for _, fd := range asked {
			if w.a.place(fd) >= 0 {
				continue
			}
			if v, err := w.t.Get(fd); v != "" || err != api.ErrBad {
				t.Errorf("of %d: Get(%d): %q, %d", most, fd, v, err)
			}
			if err := w.set(t, fd, "b"); err != api.ErrBad {
				t.Errorf("of %d: Set(%d): %d", most, fd, err)
			}
			if v, err := w.t.Close(fd); v != "" || err != api.ErrBad {
				t.Errorf("of %d: Close(%d): %q, %d", most, fd, v, err)
			}
			w.check(t, asked...)
		}
	}
}

// What is closed is not held, however often it is asked for, and a number that is given out anew stands for the new thing alone.
func TestClosed(t *testing.T) {
	for fd := range 4 {
		w := watch[int](4)
		for i := range 4 {
			w.open(t, 100+i)
		}
		w.set(t, fd, 150)
		if err := w.close(t, fd); err != api.OK {
			t.Fatalf("Close(%d): %d", fd, err)
		}
		for range 3 {
			if err := w.close(t, fd); err != api.ErrBad {
				t.Errorf("Close(%d) once more: %d", fd, err)
			}
			if err := w.set(t, fd, 7); err != api.ErrBad {
				t.Errorf("Set(%d) of what is closed: %d", fd, err)
			}
			w.check(t, numbers...)
		}
		w.open(t, 0)
		if v, err := w.t.Get(fd); v != 0 || err != api.OK {
			t.Errorf("Get(%d) of what is opened anew: %d, %d", fd, v, err)
		}
		w.check(t, numbers...)
	}
}

// Set: the number stands for what was set last, the others for what they stood for; it holds no number more.
func TestSet(t *testing.T) {
	w := watch[int](5)
	for i := range 4 {
		w.open(t, 100+i)
	}
	for i := range 50 {
		fd := i * 3 % 4
		if err := w.set(t, fd, 200+i); err != api.OK {
			t.Fatalf("Set(%d): %d", fd, err)
		}
		w.check(t, numbers...)
		w.set(t, fd, 0)
		w.check(t)
		w.set(t, fd, 200+i)
		w.check(t)
	}
	if fd, err := w.open(t, 7); fd != 4 || err != api.OK {
		t.Errorf("Open behind Sets: %d, %d", fd, err)
	}
	// Full, and Set goes on.
	for fd := range 5 {
		if err := w.set(t, fd, -fd); err != api.OK {
			t.Errorf("Set(%d) of a full table: %d", fd, err)
		}
		w.check(t)
	}
}

// Rule 2: a call that is refused changes nothing, not what a later Open gives out either.
func TestRefusedIsUntouched(t *testing.T) {
	for _, most := range []int{4, 6} {
		w := watch[int](most)
		for i := range 6 {
			w.open(t, 100+i)
		}
		w.close(t, 2)
		if most == 4 {
			w.open(t, 102)
		}
		for _, fd := range numbers {
			if w.a.place(fd) >= 0 {
				continue
			}
			w.close(t, fd)
			w.set(t, fd, 7)
			w.get(t, fd)
			w.check(t, numbers...)
		}
		w.open(t, 200)
		w.check(t, numbers...)
	}
}

// A thing that is the zero value of its type is held as any other.
func TestZeroThings(t *testing.T) {
	w := watch[int](3)
	for i := range 3 {
		w.open(t, 0)
		if w.t.Full() != (i == 2) {
			t.Errorf("with %d: Full: %v", i+1, w.t.Full())
		}
		w.check(t, numbers...)
	}
	w.close(t, 1)
	w.check(t, numbers...)
	w.set(t, 0, 5)
	w.set(t, 0, 0)
	w.check(t, numbers...)
}

// There is no bound but most: many numbers, closed here and there, and given out anew.
func TestMany(t *testing.T) {
	const many = 1<<20 + 100
	for _, most := range []int{many, math.MaxInt} {
		f := fds.New[int](most)
		for i := range many {
			if fd, err := f.Open(-i); fd != i || err != api.OK {
				t.Fatalf("of %d: Open %d: %d, %d", most, i, fd, err)
			}
		}
		if f.Len() != many || f.Full() != (most == many) {
			t.Fatalf("of %d: Len: %d, Full: %v", most, f.Len(), f.Full())
		}
		for fd := many - 1; fd >= 0; fd-- {
			if fd%3 != 0 {
				continue
			}
			if v, err := f.Close(fd); v != -fd || err != api.OK {
				t.Fatalf("Close(%d): %d, %d", fd, v, err)
			}
		}
		next := 0
		for fd, v := range f.All() {
			if next%3 == 0 {
				next++
			}
			if fd != next || v != -fd {
				t.Fatalf("%d %d in the place of %d", fd, v, next)
			}
			next++
		}
		for fd := 0; fd < many; fd += 3 {
			if got, err := f.Open(fd); got != fd || err != api.OK {
				t.Fatalf("Open in the place of %d: %d, %d", fd, got, err)
			}
		}
		if f.Len() != many || f.Full() != (most == many) {
			t.Fatalf("of %d, full again: Len: %d, Full: %v", most, f.Len(), f.Full())
		}
	}
}

// What is no longer held, or stood for no longer, is not kept (an iterator keeps what it goes over as long as it is there itself).
func TestNotKept(t *testing.T) {
	f := fds.New[*[64]int](4)
	closed, replaced, held := openNew(f), openNew(f), openNew(f)
	f.Close(0)
	f.Set(1, nil)
	for range f.All() {
	}
	for range 5 {
		runtime.GC()
	}
	if closed.Value() != nil {
		t.Error("what was closed is kept")
	}
	if replaced.Value() != nil {
		t.Error("what another thing was set in the place of is kept")
	}
	if p, err := f.Get(2); err != api.OK || held.Value() != p || p == nil {
		t.Error("what is held is not kept")
	}
	runtime.KeepAlive(f)
}

func openNew(f *fds.Table[*[64]int]) weak.Pointer[[64]int] {
	p := new([64]int)
	f.Open(p)
	return weak.Make(p)
}

// notMade are tables that New did not make.
func notMade() map[string]*fds.Table[int] {
	made := fds.New[int](4)
	made.Open(7)
	made.Open(8)
	copied := *made
	emptied := fds.New[int](4)
	emptied.Open(7)
	*emptied = fds.Table[int]{}
	replaced := fds.New[int](4)
	replaced.Open(7)
	*replaced = *made
	full := fds.New[int](0)
	copiedFull := *full
	var zero fds.Table[int]
	var holder struct{ t fds.Table[int] }
	return map[string]*fds.Table[int]{
		"nil":                  nil,
		"new":                  new(fds.Table[int]),
		"zero":                 &zero,
		"a copy":               &copied,
		"a copy of a full one": &copiedFull,
		"emptied":              emptied,
		"replaced":             replaced,
		"in a struct":          &holder.t,
	}
}

// Rule 4: all calls of a table that is nil or that New did not make.
func TestNotMade(t *testing.T) {
	for what, f := range notMade() {
		for _, fd := range numbers {
			if got, err := f.Open(7); got != 0 || err != api.ErrNil {
				t.Errorf("%s: Open: %d, %d", what, got, err)
			}
			if v, err := f.Get(fd); v != 0 || err != api.ErrNil {
				t.Errorf("%s: Get(%d): %d, %d", what, fd, v, err)
			}
			if err := f.Set(fd, 7); err != api.ErrNil {
				t.Errorf("%s: Set(%d): %d", what, fd, err)
			}
			if v, err := f.Close(fd); v != 0 || err != api.ErrNil {
				t.Errorf("%s: Close(%d): %d, %d", what, fd, v, err)
			}
			if f.Len() != 0 || f.Full() {
				t.Errorf("%s: Len: %d, Full: %v", what, f.Len(), f.Full())
			}
			all := f.All()
			if all == nil {
				t.Fatalf("%s: All: nil", what)
			}
			if l := listed(all); len(l) != 0 {
				t.Errorf("%s: All: %v", what, l)
			}
		}
	}
}

// What is asked of a copy changes nothing of the table that it was made of.
func TestCopyIsApart(t *testing.T) {
	w := watch[int](4)
	for i := range 3 {
		w.open(t, 100+i)
	}
	copied := *w.t
	copied.Open(7)
	for fd := range 4 {
		copied.Set(fd, 7)
		copied.Close(fd)
	}
	w.check(t, numbers...)
	w.open(t, 103)
	w.close(t, 0)
	w.check(t, numbers...)
}

// The chapter's examples, as they stand there.
func TestExamples(t *testing.T) {
	f := fds.New[string](3)
	for i, v := range []string{"a", "b", "c"} {
		if fd, err := f.Open(v); fd != i || err != api.OK {
			t.Errorf("Open(%q): %d, %d", v, fd, err)
		}
	}
	if fd, err := f.Open("d"); fd != 0 || err != api.ErrMfile {
		t.Errorf("Open(d): %d, %d", fd, err)
	}
	if v, err := f.Close(1); v != "b" || err != api.OK {
		t.Errorf("Close(1): %q, %d", v, err)
	}
	if v, err := f.Get(1); v != "" || err != api.ErrBad {
		t.Errorf("Get(1): %q, %d", v, err)
	}
	if v, err := f.Close(1); v != "" || err != api.ErrBad {
		t.Errorf("Close(1) once more: %q, %d", v, err)
	}
	if fd, err := f.Open("e"); fd != 1 || err != api.OK {
		t.Errorf("Open(e): %d, %d", fd, err)
	}
	if err := f.Set(1, "f"); err != api.OK {
		t.Errorf("Set(1): %d", err)
	}
	if v, err := f.Get(1); v != "f" || err != api.OK {
		t.Errorf("Get(1) behind Set: %q, %d", v, err)
	}
	if err := f.Set(3, "g"); err != api.ErrBad {
		t.Errorf("Set(3): %d", err)
	}
	if v, err := f.Get(-1); v != "" || err != api.ErrBad {
		t.Errorf("Get(-1): %q, %d", v, err)
	}
	if l := listed(f.All()); f.Len() != 3 || !f.Full() || !slices.Equal(l, []pair[string]{{0, "a"}, {1, "f"}, {2, "c"}}) {
		t.Errorf("Len: %d, Full: %v, All: %v", f.Len(), f.Full(), l)
	}
	none := fds.New[int](0)
	if _, err := none.Open(1); err != api.ErrMfile || !none.Full() {
		t.Errorf("New(0): Open: %d, Full: %v", err, none.Full())
	}
	if below := fds.New[int](-5); below.Len() != 0 || !below.Full() {
		t.Errorf("New(-5): Len: %d, Full: %v", below.Len(), below.Full())
	}
}
