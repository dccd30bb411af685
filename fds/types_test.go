package fds_test

import (
	"errors"
	"math"
	"slices"
	"testing"

	"undercroft/api"
	"undercroft/fds"
)

// held is a struct as descriptors may have it.
type held struct {
	inum  int
	place int64
	name  string
	flags [3]bool
}

// ofType goes through a table of one type: the things, none of which is the zero value, are opened, set, closed and told as they were handed in.
func ofType[T comparable](t *testing.T, what string, things ...T) {
	t.Run(what, func(t *testing.T) {
		var nothing T
		for _, most := range []int{-1, 0, 1, len(things), math.MaxInt} {
			w := watch[T](most)
			w.check(t, numbers...)
			for _, v := range things {
				w.open(t, v)
				w.check(t, numbers...)
			}
			for i, v := range things {
				w.set(t, len(things)-1-i, v)
				w.check(t)
			}
			w.close(t, 1)
			w.set(t, 1, things[0])
			w.check(t, numbers...)
			w.open(t, nothing)
			w.check(t)
			for fd := range len(things) + 1 {
				w.close(t, fd)
				w.check(t, numbers...)
			}
		}
	})
}

func TestTypes(t *testing.T) {
	ofType(t, "int", 7, -1, math.MaxInt, math.MinInt)
	ofType(t, "uint8", uint8(1), 255, 128)
	ofType(t, "int64", int64(math.MinInt64), math.MaxInt64, 5)
	ofType(t, "float64", 0.5, math.Inf(1), -7)
	ofType(t, "complex128", complex(1, 2), complex(0, -1), 3)
	ofType(t, "string", "a", "a\x00b", "three", "a")
	ofType(t, "bool", true, true, true)
	ofType(t, "Errno", api.ErrNil, api.ErrBad, api.ErrMfile)
	ofType(t, "struct", held{inum: 1}, held{place: 1 << 40, name: "b"}, held{flags: [3]bool{false, true, false}})
	ofType(t, "pointer", &held{inum: 1}, &held{inum: 1}, new(held))
	ofType(t, "array", [4]uint32{1}, [4]uint32{0, 0, 0, 9}, [4]uint32{1, 2, 3, 4})
	ofType(t, "interface", any(7), any("a"), any(held{inum: 3}), any(new(int)))
	ofType(t, "error", errors.New("a"), errors.New("b"), errors.New("a"))
	ofType(t, "channel", make(chan int), make(chan int, 1), make(chan int))
	ofType(t, "table", fds.New[int](1), fds.New[int](0), new(fds.Table[int]))
}

// Of an empty struct all things are alike, and of them a table still holds just so many numbers.
func TestOfEmptyStructs(t *testing.T) {
	w := watch[struct{}](3)
	for range 5 {
		w.open(t, struct{}{})
		w.check(t, numbers...)
	}
	w.close(t, 1)
	w.set(t, 1, struct{}{})
	w.check(t, numbers...)
	w.open(t, struct{}{})
	w.check(t, numbers...)
}

// What can't be held against each other is held in a table like all else: lists, maps, functions.
func TestOfListsMapsFunctions(t *testing.T) {
	lists := fds.New[[]int](3)
	lists.Open([]int{1, 2})
	lists.Open(nil)
	lists.Open([]int{})
	lists.Set(1, []int{5})
	for fd, want := range [][]int{{1, 2}, {5}, {}} {
		if got, err := lists.Get(fd); err != api.OK || !slices.Equal(got, want) {
			t.Errorf("lists: Get(%d): %v, %d", fd, got, err)
		}
	}
	if l, err := lists.Close(0); err != api.OK || !slices.Equal(l, []int{1, 2}) {
		t.Errorf("lists: Close: %v, %d", l, err)
	}
	if l, err := lists.Get(0); err != api.ErrBad || l != nil {
		t.Errorf("lists: Get of what is closed: %v, %d", l, err)
	}
	maps := fds.New[map[string]int](1)
	maps.Open(map[string]int{"a": 3})
	if m, err := maps.Get(0); err != api.OK || len(m) != 1 || m["a"] != 3 {
		t.Errorf("maps: Get: %v, %d", m, err)
	}
	if m, err := maps.Get(1); err != api.ErrBad || m != nil {
		t.Errorf("maps: Get of what is not held: %v, %d", m, err)
	}
	functions := fds.New[func() int](2)
	functions.Open(func() int { return 7 })
	functions.Open(nil)
	for fd, f := range functions.All() {
		if (f == nil) != (fd == 1) || f != nil && f() != 7 {
			t.Errorf("functions: %d", fd)
		}
	}
	if f, err := functions.Close(2); err != api.ErrBad || f != nil {
		t.Errorf("functions: Close of what is not held: %d", err)
	}
}

// A thing that does not equal itself is told as it was handed in.
func TestOfNaN(t *testing.T) {
	f := fds.New[float64](2)
	f.Open(math.NaN())
	f.Open(1)
	f.Set(1, math.NaN())
	for fd := range 2 {
		if v, err := f.Get(fd); err != api.OK || !math.IsNaN(v) {
			t.Errorf("Get(%d): %v, %d", fd, v, err)
		}
		if v, err := f.Close(fd); err != api.OK || !math.IsNaN(v) {
			t.Errorf("Close(%d): %v, %d", fd, v, err)
		}
	}
}

// A struct is held as a value: what is done to the one that was handed in, or to one that was answered, changes nothing of the table.
func TestStructsAreValues(t *testing.T) {
	f := fds.New[held](2)
	v := held{inum: 2, name: "a"}
	f.Open(v)
	v.inum, v.flags[1] = 9, true
	got, _ := f.Get(0)
	got.place = 5
	for _, listed := range listed(f.All()) {
		listed.v.name = "b"
	}
	if got, err := f.Get(0); err != api.OK || got != (held{inum: 2, name: "a"}) {
		t.Errorf("behind Open: %v, %d", got, err)
	}
	f.Set(0, v)
	v.name = "c"
	if got, err := f.Get(0); err != api.OK || got != (held{inum: 9, name: "a", flags: [3]bool{false, true, false}}) {
		t.Errorf("behind Set: %v, %d", got, err)
	}
}
