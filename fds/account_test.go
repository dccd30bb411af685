package fds_test

import (
	"cmp"
	"iter"
	"math"
	"slices"
	"testing"

	"undercroft/api"
	"undercroft/fds"
)

// mosts are how many numbers a table may be made for.
var mosts = []int{math.MinInt, math.MinInt + 1, -5, -1, 0, 1, 2, 3, api.MaxDescs, 1000, math.MaxInt32, math.MaxInt - 1, math.MaxInt}

// numbers are those that may be asked for: the ends of int, those about 0, and those about the most that tables have.
var numbers = []int{math.MinInt, math.MinInt + 1, -65536, -16, -2, -1, 0, 1, 2, 3, 4, 5, 15, 16, 17, 999, 1000, 1001, math.MaxInt32, 1 << 30, math.MaxInt - 1, math.MaxInt}

// pair is a number that is held, and what it stands for.
type pair[T any] struct {
	fd int
	v  T
}

// listed is all that an iterator goes over.
func listed[T any](all iter.Seq2[int, T]) []pair[T] {
	var l []pair[T]
	for fd, v := range all {
		l = append(l, pair[T]{fd, v})
	}
	return l
}

// account is a table by the chapter's words: the numbers that are held, in the order in which they were opened.
type account[T comparable] struct {
	most int
	row  []pair[T]
}

func (a *account[T]) place(fd int) int {
	return slices.IndexFunc(a.row, func(p pair[T]) bool { return p.fd == fd })
}

func (a *account[T]) full() bool { return len(a.row) >= a.most }

func (a *account[T]) open(v T) (int, api.Errno) {
	if a.full() {
		return 0, api.ErrMfile
	}
	fd := 0
	for a.place(fd) >= 0 {
		fd++
	}
	a.row = append(a.row, pair[T]{fd, v})
	return fd, api.OK
}

func (a *account[T]) get(fd int) (T, api.Errno) {
	i := a.place(fd)
	if i < 0 {
		var nothing T
		return nothing, api.ErrBad
	}
	return a.row[i].v, api.OK
}

func (a *account[T]) set(fd int, v T) api.Errno {
	i := a.place(fd)
	if i < 0 {
		return api.ErrBad
	}
	a.row[i].v = v
	return api.OK
}

func (a *account[T]) close(fd int) (T, api.Errno) {
	v, err := a.get(fd)
	if err == api.OK {
		i := a.place(fd)
		a.row = slices.Delete(a.row, i, i+1)
	}
	return v, err
}

func (a *account[T]) all() []pair[T] {
	l := slices.Clone(a.row)
	slices.SortFunc(l, func(p, q pair[T]) int { return cmp.Compare(p.fd, q.fd) })
	return l
}

// watched is a table beside its account.
type watched[T comparable] struct {
	t *fds.Table[T]
	a *account[T]
}

func watch[T comparable](most int) watched[T] {
	return watched[T]{t: fds.New[T](most), a: &account[T]{most: most}}
}

// open has both open a number, and what they answer held against each other.
func (w watched[T]) open(t testing.TB, v T) (int, api.Errno) {
	t.Helper()
	before := w.a.all()
	fd, err := w.t.Open(v)
	wantFd, want := w.a.open(v)
	if fd != wantFd || err != want {
		t.Fatalf("of %d, with %v: Open(%v): %d, %d, not %d, %d", w.a.most, before, v, fd, err, wantFd, want)
	}
	return fd, err
}

func (w watched[T]) get(t testing.TB, fd int) {
	t.Helper()
	v, err := w.t.Get(fd)
	wantV, want := w.a.get(fd)
	if v != wantV || err != want {
		t.Fatalf("of %d, with %v: Get(%d): %v, %d, not %v, %d", w.a.most, w.a.all(), fd, v, err, wantV, want)
	}
}

func (w watched[T]) set(t testing.TB, fd int, v T) api.Errno {
	t.Helper()
	before := w.a.all()
	err, want := w.t.Set(fd, v), w.a.set(fd, v)
	if err != want {
		t.Fatalf("of %d, with %v: Set(%d, %v): %d, not %d", w.a.most, before, fd, v, err, want)
	}
	return err
}

func (w watched[T]) close(t testing.TB, fd int) api.Errno {
	t.Helper()
	before := w.a.all()
	v, err := w.t.Close(fd)
	wantV, want := w.a.close(fd)
	if v != wantV || err != want {
		t.Fatalf("of %d, with %v: Close(%d): %v, %d, not %v, %d", w.a.most, before, fd, v, err, wantV, want)
	}
	return err
}

// check holds all that the table tells against the account: of the numbers that are held, of those about them, and of those that are asked.
func (w watched[T]) check(t testing.TB, asked ...int) {
	t.Helper()
	want := w.a.all()
	if got := w.t.Len(); got != len(want) || got > max(w.a.most, 0) {
		t.Fatalf("of %d, with %v: Len: %d", w.a.most, want, got)
	}
	if got := w.t.Full(); got != w.a.full() {
		t.Fatalf("of %d, with %v: Full: %v", w.a.most, want, got)
	}
	if got := listed(w.t.All()); !slices.Equal(got, want) {
		t.Fatalf("of %d, with %v: All: %v", w.a.most, want, got)
	}
	w.get(t, -1)
	w.get(t, len(want))
	for _, p := range want {
		if p.fd < 0 || p.fd >= w.a.most {
			t.Fatalf("of %d: %d is held", w.a.most, p.fd)
		}
		w.get(t, p.fd)
		w.get(t, p.fd+1)
	}
	for _, fd := range asked {
		w.get(t, fd)
	}
}
