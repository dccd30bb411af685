package desk_test

import (
	"fmt"
	"iter"
	"math"
	"slices"
	"testing"

	"undercroft/api"
	"undercroft/desk"
)

// numbers are inodes that may be asked for: the ends of int, those about 0, and those about the ends of what disks have.
var numbers = []int{math.MinInt, math.MinInt + 1, -65536, -4, -1, 0, 1, 2, 3, 7, 8, 9, api.MaxInodes, api.MaxInodes + 1, math.MaxInt32, math.MaxInt - 1, math.MaxInt}

// pair is an inode that is held, and its holds.
type pair struct {
	inum  int
	holds int
}

// listed is all that an iterator goes over.
func listed(all iter.Seq2[int, int]) []pair {
	var l []pair
	for inum, holds := range all {
		l = append(l, pair{inum, holds})
	}
	return l
}

// account is a desk by the chapter's words: a number for each hold, rising, gone over from its beginning.
type account struct {
	most int
	row  []int
}

func (a *account) holds(inum int) int {
	n := 0
	for _, i := range a.row {
		if i == inum {
			n++
		}
	}
	return n
}

func (a *account) all() []pair {
	var l []pair
	for _, i := range a.row {
		if len(l) == 0 || l[len(l)-1].inum != i {
			l = append(l, pair{i, a.holds(i)})
		}
	}
	return l
}

func (a *account) full() bool {
	return len(a.all()) >= a.most
}

func (a *account) hold(inum int) api.Errno {
	if inum < 1 {
		return api.ErrArg
	}
	if a.holds(inum) == 0 && a.full() {
		return api.ErrNfile
	}
	a.row = append(a.row, inum)
	slices.Sort(a.row)
	return api.OK
}

func (a *account) drop(inum int) (bool, api.Errno) {
	i := slices.Index(a.row, inum)
	if i < 0 {
		return false, api.ErrArg
	}
	a.row = slices.Delete(a.row, i, i+1)
	return a.holds(inum) == 0, api.OK
}

// watched is a desk beside its account.
type watched struct {
	d *desk.Desk
	a *account
}

func watch(most int) watched {
	return watched{d: desk.New(most), a: &account{most: most}}
}

// hold has both hold an inode, and what they answer held against each other.
func (w watched) hold(t testing.TB, inum int) api.Errno {
	t.Helper()
	got, want := w.d.Hold(inum), w.a.hold(inum)
	if got != want {
		t.Fatalf("of %d, with %v: Hold(%d): %d, not %d", w.a.most, w.a.all(), inum, got, want)
	}
	return got
}

func (w watched) drop(t testing.TB, inum int) bool {
	t.Helper()
	before := w.a.all()
	last, err := w.d.Drop(inum)
	wantLast, want := w.a.drop(inum)
	if last != wantLast || err != want {
		t.Fatalf("of %d, with %v: Drop(%d): %v, %d, not %v, %d", w.a.most, before, inum, last, err, wantLast, want)
	}
	return last
}

// check holds all that the desk tells against the account.
func (w watched) check(t testing.TB, asked ...int) {
	t.Helper()
	want := w.a.all()
	if got := w.d.Len(); got != len(want) {
		t.Fatalf("of %d, with %v: Len: %d", w.a.most, want, got)
	}
	if got := w.d.Len(); got > max(w.a.most, 0) {
		t.Fatalf("of %d: %d are held", w.a.most, got)
	}
	if got := w.d.Full(); got != w.a.full() {
		t.Fatalf("of %d, with %v: Full: %v", w.a.most, want, got)
	}
	for _, p := range want {
		if got := w.d.Holds(p.inum); got != p.holds {
			t.Fatalf("of %d, with %v: Holds(%d): %d", w.a.most, want, p.inum, got)
		}
	}
	for _, inum := range asked {
		if got := w.d.Holds(inum); got != w.a.holds(inum) {
			t.Fatalf("of %d, with %v: Holds(%d): %d", w.a.most, want, inum, got)
		}
	}
	if got := listed(w.d.All()); !slices.Equal(got, want) {
		t.Fatalf("of %d, with %v: All: %v", w.a.most, want, got)
	}
}

// act is a call that may change a desk.
type act struct {
	drop bool
	inum int
}

func (w watched) do(t testing.TB, x act) {
	t.Helper()
	if x.drop {
		w.drop(t, x.inum)
	} else {
		w.hold(t, x.inum)
	}
}

// mosts are how many inodes a desk may be made for.
var mosts = []int{math.MinInt, math.MinInt + 1, -3, -1, 0, 1, 2, 3, api.MaxHeld, api.MaxInodes, math.MaxInt32, math.MaxInt - 1, math.MaxInt}

// The errors' numbers are those that the chapter names.
func TestErrors(t *testing.T) {
	d := desk.New(0)
	var none *desk.Desk
	if err := none.Hold(1); err != 1 {
		t.Errorf("Hold of no desk: %d", err)
	}
	if _, err := none.Drop(1); err != 1 {
		t.Errorf("Drop of no desk: %d", err)
	}
	if err := d.Hold(0); err != 2 {
		t.Errorf("Hold of 0: %d", err)
	}
	if _, err := d.Drop(1); err != 2 {
		t.Errorf("Drop of what is not held: %d", err)
	}
	if err := d.Hold(1); err != 15 {
		t.Errorf("Hold of a full desk: %d", err)
	}
}

// A desk that is new holds nothing, and as many as most says may be held.
func TestNew(t *testing.T) {
	for _, most := range mosts {
		w := watch(most)
		if w.d == nil {
			t.Fatalf("New(%d): nil", most)
		}
		w.check(t, numbers...)
		if w.d.Full() != (most <= 0) {
			t.Errorf("New(%d): Full: %v", most, w.d.Full())
		}
		for _, inum := range numbers {
			w.drop(t, inum)
			w.check(t, numbers...)
		}
		for _, inum := range numbers {
			w.hold(t, inum)
			w.check(t, numbers...)
		}
	}
}

// Each number below 0 counts as 0.
func TestNewBelowNought(t *testing.T) {
	for most := -70; most <= 0; most++ {
		d := desk.New(most)
		if err := d.Hold(1); err != api.ErrNfile || !d.Full() || d.Len() != 0 || len(listed(d.All())) != 0 {
			t.Errorf("New(%d): Hold: %d, Full: %v, Len: %d", most, err, d.Full(), d.Len())
		}
	}
}

// notMade are desks that New did not make.
func notMade() map[string]*desk.Desk {
	made := desk.New(4)
	made.Hold(1)
	made.Hold(1)
	made.Hold(9)
	copied := *made
	emptied := desk.New(4)
	emptied.Hold(1)
	*emptied = desk.Desk{}
	replaced := desk.New(4)
	replaced.Hold(2)
	*replaced = *made
	none := desk.New(0)
	copiedFull := *none
	var zero desk.Desk
	var holder struct{ d desk.Desk }
	return map[string]*desk.Desk{
		"nil":                   nil,
		"new":                   new(desk.Desk),
		"zero":                  &zero,
		"a copy":                &copied,
		"a copy of a full one":  &copiedFull,
		"emptied":               emptied,
		"replaced by a copy":    replaced,
		"in a struct":           &holder.d,
		"an element of a slice": &make([]desk.Desk, 3)[1],
	}
}

// P17.1, rule 4: ErrNil, 0, false, nothing.
func TestNoDesk(t *testing.T) {
	for what, d := range notMade() {
		for range 2 {
			for _, inum := range numbers {
				if err := d.Hold(inum); err != api.ErrNil {
					t.Errorf("%s: Hold(%d): %d", what, inum, err)
				}
				if last, err := d.Drop(inum); last || err != api.ErrNil {
					t.Errorf("%s: Drop(%d): %v, %d", what, inum, last, err)
				}
				if n := d.Holds(inum); n != 0 {
					t.Errorf("%s: Holds(%d): %d", what, inum, n)
				}
				if d.Len() != 0 || d.Full() {
					t.Errorf("%s: Len: %d, Full: %v", what, d.Len(), d.Full())
				}
				all := d.All()
				if all == nil {
					t.Fatalf("%s: All: nil", what)
				}
				if l := listed(all); len(l) != 0 {
					t.Errorf("%s: All: %v", what, l)
				}
			}
		}
	}
}

// What is asked of a copy leaves the desk as it was.
func TestCopyIsApart(t *testing.T) {
	w := watch(3)
	for _, inum := range []int{5, 5, 7} {
		w.hold(t, inum)
	}
	copied := *w.d
	for inum := range 10 {
		copied.Hold(inum)
		copied.Drop(inum)
	}
	w.check(t, numbers...)
	w.drop(t, 5)
	w.hold(t, 9)
	w.check(t, numbers...)
}

// Hold, Drop and Holds of each number, on a desk with room, on a full one, and on one that is full with that number.
func TestNumbers(t *testing.T) {
	for _, inum := range numbers {
		for _, w := range []watched{watch(0), watch(1), watch(2), watch(math.MaxInt)} {
			for range 3 {
				w.hold(t, inum)
				w.check(t, inum)
			}
			for range 4 {
				w.drop(t, inum)
				w.check(t, inum)
			}
			for _, other := range numbers {
				w.hold(t, other)
				w.hold(t, inum)
				w.check(t, numbers...)
				w.drop(t, inum)
				w.drop(t, other)
				w.check(t, numbers...)
			}
		}
	}
}

// A bad number is told ahead of a full desk; what is held is held once more though the desk is full.
func TestOrderOfErrors(t *testing.T) {
	for most := range 5 {
		w := watch(most)
		for inum := 1; inum <= most; inum++ {
			w.hold(t, inum)
		}
		for _, bad := range []int{0, -1, math.MinInt} {
			if err := w.d.Hold(bad); err != api.ErrArg {
				t.Errorf("Hold(%d) of a full desk of %d: %d", bad, most, err)
			}
		}
		for inum := 1; inum <= most; inum++ {
			if err := w.hold(t, inum); err != api.OK {
				t.Errorf("Hold(%d) of a full desk of %d that holds it: %d", inum, most, err)
			}
			if n := w.d.Holds(inum); n != 2 {
				t.Errorf("Holds(%d): %d", inum, n)
			}
		}
		for _, other := range []int{most + 1, math.MaxInt} {
			if err := w.d.Hold(other); err != api.ErrNfile {
				t.Errorf("Hold(%d) of a full desk of %d: %d", other, most, err)
			}
		}
		w.check(t, numbers...)
	}
}

// P17.3: just as many as most says are held, and one that is held no more makes room for one other.
func TestMost(t *testing.T) {
	for most := range 20 {
		w := watch(most)
		for inum := 1; inum <= 2*most+2; inum++ {
			want := api.OK
			if inum > most {
				want = api.ErrNfile
			}
			if err := w.hold(t, inum); err != want {
				t.Fatalf("of %d: Hold(%d): %d", most, inum, err)
			}
			w.check(t, inum)
		}
		for inum := 1; inum <= most; inum++ {
			if last := w.drop(t, inum); !last || w.d.Full() {
				t.Fatalf("of %d: Drop(%d): %v, Full: %v", most, inum, last, w.d.Full())
			}
			if err := w.hold(t, most+inum); err != api.OK || !w.d.Full() {
				t.Fatalf("of %d: Hold(%d) in its place: %d, Full: %v", most, most+inum, err, w.d.Full())
			}
			if err := w.hold(t, inum); err != api.ErrNfile {
				t.Fatalf("of %d: Hold(%d) anew: %d", most, inum, err)
			}
			w.check(t, inum)
		}
	}
}

// There is no bound but most: more inodes are held than a disk has blocks.
func TestNoOtherBound(t *testing.T) {
	const many = api.MaxBlocks + 100
	for _, most := range []int{many, math.MaxInt} {
		d := desk.New(most)
		for i := range many {
			if err := d.Hold(math.MaxInt - i); err != api.OK {
				t.Fatalf("of %d: Hold %d: %d", most, i, err)
			}
		}
		if d.Len() != many || d.Full() != (most == many) {
			t.Errorf("of %d: Len: %d, Full: %v", most, d.Len(), d.Full())
		}
	}
}

// A hold less that is not the last one makes no room.
func TestRoomByTheLastDropAlone(t *testing.T) {
	w := watch(1)
	for range 5 {
		w.hold(t, 3)
	}
	for i := range 5 {
		if err := w.hold(t, 4); err != api.ErrNfile || !w.d.Full() {
			t.Fatalf("behind %d Drops: Hold(4): %d, Full: %v", i, err, w.d.Full())
		}
		if last := w.drop(t, 3); last != (i == 4) {
			t.Fatalf("Drop %d: %v", i, last)
		}
	}
	if w.d.Full() || w.hold(t, 4) != api.OK {
		t.Error("no room behind the last Drop")
	}
	w.check(t, 3, 4)
}

// Rule 2: a call that is refused changes nothing.
func TestRefusedIsUntouched(t *testing.T) {
	w := watch(2)
	for _, inum := range []int{6, 2, 6} {
		w.hold(t, inum)
	}
	for _, inum := range numbers {
		if inum == 2 || inum == 6 {
			continue
		}
		if err := w.d.Hold(inum); err == api.OK {
			t.Errorf("Hold(%d): OK", inum)
		}
		w.check(t, numbers...)
		if last, err := w.d.Drop(inum); last || err != api.ErrArg {
			t.Errorf("Drop(%d): %v, %d", inum, last, err)
		}
		w.check(t, numbers...)
	}
}

// What was never held and what is held no more are not dropped; that one is dropped is not told of another.
func TestDropNotHeld(t *testing.T) {
	w := watch(4)
	for _, inum := range numbers {
		if last, err := w.d.Drop(inum); last || err != api.ErrArg {
			t.Errorf("of an empty desk: Drop(%d): %v, %d", inum, last, err)
		}
	}
	w.hold(t, 3)
	w.hold(t, 8)
	if last, err := w.d.Drop(4); last || err != api.ErrArg {
		t.Errorf("never held: %v, %d", last, err)
	}
	w.check(t, numbers...)
	w.drop(t, 3)
	for range 3 {
		if last, err := w.d.Drop(3); last || err != api.ErrArg {
			t.Errorf("held no more: %v, %d", last, err)
		}
		w.check(t, numbers...)
	}
	w.hold(t, 3)
	if last := w.drop(t, 3); !last {
		t.Error("held anew: its one hold is not the last")
	}
}

// P17.2: many holds of one inode, and Drop's answer at each.
func TestManyHolds(t *testing.T) {
	for _, many := range []int{1, 2, 3, 255, 256, 257, 65535, 65536, 65537, 200000} {
		d := desk.New(1)
		for i := range many {
			if err := d.Hold(7); err != api.OK || d.Holds(7) != i+1 || d.Len() != 1 || !d.Full() {
				t.Fatalf("Hold %d: %d, Holds: %d, Len: %d, Full: %v", i, err, d.Holds(7), d.Len(), d.Full())
			}
		}
		if l := listed(d.All()); !slices.Equal(l, []pair{{7, many}}) {
			t.Fatalf("All: %v", l)
		}
		for i := range many {
			left := many - 1 - i
			last, err := d.Drop(7)
			if err != api.OK || last != (left == 0) || d.Holds(7) != left {
				t.Fatalf("Drop %d of %d: %v, %d, Holds: %d", i, many, last, err, d.Holds(7))
			}
			if d.Full() != (left > 0) || (d.Len() == 1) != (left > 0) {
				t.Fatalf("Drop %d of %d: Full: %v, Len: %d", i, many, d.Full(), d.Len())
			}
		}
		if last, err := d.Drop(7); last || err != api.ErrArg {
			t.Fatalf("one Drop more than %d: %v, %d", many, last, err)
		}
	}
}

// The chapter's examples, as they stand there.
func TestExamples(t *testing.T) {
	d := desk.New(2)
	for _, x := range []struct {
		inum int
		want api.Errno
	}{{5, api.OK}, {5, api.OK}, {7, api.OK}, {9, api.ErrNfile}, {7, api.OK}} {
		if err := d.Hold(x.inum); err != x.want {
			t.Errorf("Hold(%d): %d", x.inum, err)
		}
	}
	if !d.Full() {
		t.Error("it is not full")
	}
	for i, want := range []string{"false 0", "true 0", "false 2"} {
		last, err := d.Drop(5)
		if got := fmt.Sprint(last, " ", int(err)); got != want {
			t.Errorf("Drop %d of 5: %s, not %s", i, got, want)
		}
	}
	if err := d.Hold(9); err != api.OK {
		t.Errorf("Hold(9): %d", err)
	}
	if l := listed(d.All()); !slices.Equal(l, []pair{{7, 2}, {9, 1}}) {
		t.Errorf("All: %v", l)
	}
	if d.Len() != 2 {
		t.Errorf("Len: %d", d.Len())
	}
	for _, most := range []int{0, -3} {
		d := desk.New(most)
		if err := d.Hold(1); err != api.ErrNfile || !d.Full() {
			t.Errorf("New(%d): Hold(1): %d, Full: %v", most, err, d.Full())
		}
		if err := d.Hold(0); err != api.ErrArg {
			t.Errorf("New(%d): Hold(0): %d", most, err)
		}
	}
}
