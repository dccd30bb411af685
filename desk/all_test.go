package desk_test

import (
	"iter"
	"math"
	"math/rand"
	"slices"
	"testing"

	"undercroft/api"
	"undercroft/desk"
)

// some is a desk that holds 2 twice, 5 once, 9 three times and the greatest number once, held in no order.
func some(t testing.TB) (*desk.Desk, []pair) {
	t.Helper()
	d := desk.New(6)
	for _, inum := range []int{9, 2, math.MaxInt, 9, 5, 2, 9} {
		if err := d.Hold(inum); err != api.OK {
			t.Fatalf("Hold(%d): %d", inum, err)
		}
	}
	return d, []pair{{2, 2}, {5, 1}, {9, 3}, {math.MaxInt, 1}}
}

// Rising order, whatever the order of the holds; the same each time.
func TestAllRises(t *testing.T) {
	orders := [][]int{{1, 2, 3, 4}, {4, 3, 2, 1}, {2, 4, 1, 3}, {3, 3, 1, 4, 2, 3}, {math.MaxInt, 1, math.MaxInt - 1, 1 << 20, 65535, 65536}}
	for _, order := range orders {
		w := watch(len(order))
		for _, inum := range order {
			w.hold(t, inum)
			w.check(t, inum)
		}
		for range 50 {
			w.check(t)
		}
	}
}

// Many inodes, more than a desk of a volume has.
func TestAllOfMany(t *testing.T) {
	const many = api.MaxInodes
	d := desk.New(many)
	for _, i := range rand.New(rand.NewSource(17)).Perm(many) {
		for range 1 + i%3 {
			if err := d.Hold(i + 1); err != api.OK {
				t.Fatalf("Hold(%d): %d", i+1, err)
			}
		}
	}
	if !d.Full() || d.Len() != many || d.Hold(many+1) != api.ErrNfile {
		t.Fatalf("Full: %v, Len: %d", d.Full(), d.Len())
	}
	next := 1
	for inum, holds := range d.All() {
		if inum != next || holds != 1+(inum-1)%3 || d.Holds(inum) != holds {
			t.Fatalf("%d in the place of %d, with %d holds", inum, next, holds)
		}
		next++
	}
	if next != many+1 {
		t.Fatalf("%d inodes", next-1)
	}
}

// An iterator is never nil, not of an empty desk, nor of one that holds nothing any more.
func TestAllOfNothing(t *testing.T) {
	d := desk.New(2)
	for range 2 {
		all := d.All()
		if all == nil || d.All() == nil {
			t.Fatal("nil")
		}
		d.Hold(4)
		if l := listed(all); len(l) != 0 {
			t.Fatalf("made of a desk that held nothing: %v", l)
		}
		d.Drop(4)
		if l := listed(d.All()); len(l) != 0 {
			t.Fatalf("of a desk that holds nothing any more: %v", l)
		}
	}
}

// Rule 5: it goes over what was there at the call, whatever is called ahead of the going over.
func TestAllStays(t *testing.T) {
	changes := map[string]func(d *desk.Desk){
		"nothing":         func(d *desk.Desk) {},
		"one hold more":   func(d *desk.Desk) { d.Hold(5) },
		"one hold less":   func(d *desk.Desk) { d.Drop(9) },
		"a last hold":     func(d *desk.Desk) { d.Drop(5) },
		"one inode ahead": func(d *desk.Desk) { d.Hold(1) },
		"one inode more":  func(d *desk.Desk) { d.Hold(7) },
		"another one":     func(d *desk.Desk) { d.Drop(5); d.Hold(6) },
		"held anew":       func(d *desk.Desk) { d.Drop(5); d.Hold(5); d.Hold(5) },
		"all dropped": func(d *desk.Desk) {
			for inum, holds := range d.All() {
				for range holds {
					d.Drop(inum)
				}
			}
		},
		"refused":       func(d *desk.Desk) { d.Hold(0); d.Drop(3) },
		"another All":   func(d *desk.Desk) { listed(d.All()) },
		"asked":         func(d *desk.Desk) { d.Len(); d.Full(); d.Holds(2) },
		"made no desk":  func(d *desk.Desk) { *d = desk.Desk{} },
		"another's put": func(d *desk.Desk) { *d = *desk.New(3) },
	}
	for what, change := range changes {
		d, want := some(t)
		all := d.All()
		change(d)
		for i := range 3 {
			if l := listed(all); !slices.Equal(l, want) {
				t.Errorf("%s: gone over %d times: %v", what, i, l)
			}
			change(d)
		}
	}
}

// The desk is changed within the loop: the loop goes on as if it were not, and the desk has the changes.
func TestAllWhileChanging(t *testing.T) {
	d, want := some(t)
	var l []pair
	for inum, holds := range d.All() {
		l = append(l, pair{inum, holds})
		if err := d.Hold(9); err != api.OK {
			t.Fatalf("Hold(9): %d", err)
		}
		for range d.Holds(2) {
			d.Drop(2)
		}
		if inum < math.MaxInt {
			d.Hold(inum + 1)
		}
		d.Drop(5)
	}
	if !slices.Equal(l, want) {
		t.Errorf("within the loop: %v", l)
	}
	// 3, 6 and 10 came in the loop; 9 had a hold more at each of the four.
	if got := listed(d.All()); !slices.Equal(got, []pair{{3, 1}, {6, 1}, {9, 7}, {10, 1}, {math.MaxInt, 1}}) {
		t.Errorf("behind the loop: %v", got)
	}
}

// Each one's last hold is dropped within the loop, as whoever ends a volume's holds would do.
func TestDropAllInTheLoop(t *testing.T) {
	d, want := some(t)
	n := 0
	for inum, holds := range d.All() {
		for i := range holds {
			last, err := d.Drop(inum)
			if err != api.OK || last != (i == holds-1) {
				t.Fatalf("Drop(%d): %v, %d", inum, last, err)
			}
		}
		n++
		if d.Len() != len(want)-n {
			t.Fatalf("Len: %d", d.Len())
		}
	}
	if n != len(want) || d.Len() != 0 {
		t.Errorf("%d were gone over, %d are held", n, d.Len())
	}
}

// It may be stopped at each place, asks no more then, and may be gone over again, wholly or in part.
func TestAllStopped(t *testing.T) {
	d, want := some(t)
	all := d.All()
	for stop := 1; stop <= len(want)+1; stop++ {
		for range 2 {
			var l []pair
			all(func(inum, holds int) bool {
				l = append(l, pair{inum, holds})
				return len(l) < stop
			})
			if !slices.Equal(l, want[:min(stop, len(want))]) {
				t.Errorf("stopped at %d: %v", stop, l)
			}
		}
		if l := listed(all); !slices.Equal(l, want) {
			t.Errorf("gone over again behind a stop at %d: %v", stop, l)
		}
		if l := listed(d.All()); !slices.Equal(l, want) {
			t.Errorf("another one behind a stop at %d: %v", stop, l)
		}
	}
}

// Goings over do not disturb each other: one within the other, and two side by side.
func TestAllTwice(t *testing.T) {
	d, want := some(t)
	all := d.All()
	var outer []pair
	for inum, holds := range all {
		outer = append(outer, pair{inum, holds})
		if l := listed(all); !slices.Equal(l, want) {
			t.Errorf("within: %v", l)
		}
	}
	if !slices.Equal(outer, want) {
		t.Errorf("around: %v", outer)
	}
	first, stopFirst := iter.Pull2(all)
	defer stopFirst()
	second, stopSecond := iter.Pull2(all)
	defer stopSecond()
	for _, p := range want {
		a, n, ok := first()
		b, m, also := second()
		if !ok || !also || (pair{a, n}) != p || (pair{b, m}) != p {
			t.Errorf("side by side: %d %d %v, %d %d %v", a, n, ok, b, m, also)
		}
		d.Drop(p.inum)
	}
	if _, _, ok := first(); ok {
		t.Error("the first goes on behind the last one")
	}
	if _, _, ok := second(); ok {
		t.Error("the second goes on behind the last one")
	}
}

// Iterators of several times each tell of their own.
func TestAllOfEachTime(t *testing.T) {
	w := watch(40)
	var alls []iter.Seq2[int, int]
	var wants [][]pair
	keep := func() {
		alls, wants = append(alls, w.d.All()), append(wants, w.a.all())
	}
	keep()
	for i := range 60 {
		w.hold(t, 1+i*7%20)
		keep()
	}
	for i := range 60 {
		w.drop(t, 1+i*11%20)
		keep()
	}
	for i := range alls {
		if l := listed(alls[i]); !slices.Equal(l, wants[i]) {
			t.Errorf("behind %d calls: %v, not %v", i, l, wants[i])
		}
	}
}
