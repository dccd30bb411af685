package tree_test

import (
	"maps"
	"math/rand"
	"slices"
	"testing"

	"undercroft/api"
	"undercroft/disk"
	"undercroft/past"
	"undercroft/tree"
)

// rows are calls of all kinds, all of them OK, such that all kinds of steps are on their way when the disk stops.
func rows() map[string][]api.Call {
	return map[string][]api.Call{
		"made": {
			making("/k"), opening("/k/l", nu), writing(0, sown(1, 3000)), linking("/k/l", "/k/m"), making("/k/n"), syncing(), making("/k/n/o"), opening("/k/n/p", nu), writing(1, sown(2, 9000)), stating("/k"), linking("/k/n/p", "/p"),
			making("/q"), listing("/"), opening("/j/new", nu), making("/j/r"), linking("/a", "/j/s"), closing(1), writing(0, sown(3, 20000)),
		},
		"unlinked": {
			unlinking("/g"), unlinking("/d/f"), unlinking("/h"), opening("/c", rw), opening("/b", rd), unlinking("/c"), syncing(), unlinking("/b"), unlinking("/d/e/i"), unlinking("/d/e"), unlinking("/d"), closing(0), making("/b"), unlinking("/j/m"), closing(1), unlinking("/b"),
		},
		"renamed": {
			renaming("/a", "/x"), renaming("/x", "/d/e/x"), renaming("/d", "/h"), syncing(), renaming("/h/e", "/e"), renaming("/b", "/c"), opening("/e/x", rw), renaming("/h/f", "/e/x"), renaming("/e", "/h/e"), making("/e"), renaming("/h/e", "/e"), writing(0, sown(1, 5000)), closing(0), renaming("/j", "/e/j"), renaming("/e/j/k", "/h/k"), renaming("/e/j/m", "/h/k"),
		},
		"written": {
			opening("/a", rw), writing(0, sown(1, 20000)), opening("/c", wr|tr), writing(1, sown(2, 9000)), syncing(), truncating(0, 100), truncating(0, 50000), seeking(0, 0, 2), writing(0, sown(3, 9000)), opening("/new", nu), writing(2, sown(4, 30000)), truncating(2, 9000), renaming("/new", "/a"), opening("/a", rw|tr), closing(0), unlinking("/c"), closing(1),
		},
		"orphans": {
			opening("/b", rw), opening("/c", rd), opening("/h", rd), opening("/d/e/i", rw), unlinking("/b"), renaming("/a", "/c"), renaming("/d/e", "/h"), writing(0, sown(1, 20000)), unlinking("/h/i"), syncing(), making("/b"), writing(3, sown(2, 9000)),
		},
	}
}

// lived is what came of a row of calls, and of an unmounting behind it, that nothing stopped.
type lived struct {
	name    string
	a       *account // ahead of it
	im      api.Image
	row     []api.Call
	results []api.Result
	made    []int // how many things were done to the disk, behind each call
	steps   []int // how many steps there were, behind each call
	states  []map[int]*item
	commits []commit
	ops     []api.Op
	from    int // from as many things on the disk is stopped
	to      int // to as many
}

// commit is one of a row: how many things were done ahead of it, how many blocks it has, and behind how many steps it comes.
type commit struct {
	made  int
	n     int
	steps int
}

func live(t testing.TB, name string, a *account, row []api.Call) *lived {
	t.Helper()
	l := &lived{name: name, a: a, im: a.image(t), row: row}
	x := worldOf(t, l.im, a)
	x.a.keeps, x.a.states = true, []map[int]*item{copied(x.a.items)}
	for _, c := range row {
		got := x.do(t, c)
		if got.Err != api.OK {
			t.Fatalf("%s: %+v: %+v", name, shortCall(c), short(got))
		}
		l.results, l.made, l.steps = append(l.results, got), append(l.made, x.d.Made()), append(l.steps, x.a.steps)
	}
	x.unmounts(t)
	l.states, l.ops = x.a.states, x.d.History()
	made := 0
	for i, group := range x.a.groups {
		l.commits = append(l.commits, commit{made, len(group), x.a.behind[i]})
		made += 2*len(group) + 6
	}
	l.to = len(l.ops)
	return l
}

// lives are the rows, and each call that takes steps by itself, such that the group is committed ahead of each of its steps in turn: there the disk is stopped during the call.
func lives(t testing.TB) []*lived {
	t.Helper()
	var out []*lived
	for _, name := range slices.Sorted(maps.Keys(rows())) {
		out = append(out, live(t, name, town(t, brief()), rows()[name]))
	}
	begun := full(t, town(t, brief()), "/full", 64)
	single := stepRows()
	for _, name := range slices.Sorted(maps.Keys(single)) {
		seen := map[int]bool{}
		for n := range 32 {
			row := append(single[name].ahead(n), single[name].call)
			l := live(t, name, begun, row)
			last := len(row) - 1
			if l.from, l.to = l.made[last-1], l.made[last]; l.from == l.to {
				continue
			}
			for _, c := range l.commits {
				if c.made == l.from && !seen[c.steps] {
					seen[c.steps] = true
					out = append(out, l)
				}
			}
		}
		if len(single[name].steps) > 0 && len(seen) == 0 {
			t.Fatalf("%s: nothing is committed during the call", name)
		}
	}
	return out
}

// may are the numbers of the states that may be found when so many things were done: a commit's is there when its header is, and may be there when that is pending.
func (l *lived) may(made int) []int {
	may := []int{0}
	for _, c := range l.commits {
		switch done := made - c.made; {
		case done == c.n+2:
			may = append(may, c.steps)
		case done > c.n+2:
			may = []int{c.steps}
		}
	}
	return may
}

// bounds are the numbers of the first and the last state that P4 allows when so many things were done.
func (l *lived) bounds(made int) (int, int) {
	lo := 0
	for i, c := range l.row {
		if l.made[i] > made {
			return lo, l.steps[i] // this one was on its way
		}
		if c.Kind == api.CallSync {
			lo = l.steps[i]
		}
	}
	return lo, len(l.states) - 1 // the unmounting was
}

// Rule 7, P27.3: the disk stops at each write and barrier of each call, and of the unmounting: that call is ErrDead and tells nothing else, and so is all that is called later; ahead of it all is answered as without a fuse.
func TestStopped(t *testing.T) {
	t.Parallel()
	died := map[api.CallKind]int{}
	for _, l := range lives(t) {
		for fuse := l.from; fuse < l.to; fuse++ {
			x := worldOf(t, l.im, l.a)
			x.d.Fuse(fuse)
			for i, c := range l.row {
				want := l.results[i]
				if l.made[i] > fuse {
					want = wrong(api.ErrDead)
				}
				if l.made[i] > fuse && (i == 0 || l.made[i-1] <= fuse) {
					died[c.Kind]++
				}
				if got := x.ask(c); !like(got, want) {
					t.Fatalf("%s: a fuse of %d: call %d: %+v, not %+v", l.name, fuse, i, short(got), short(want))
				}
			}
			if err := x.s.Unmount(); err != api.ErrDead {
				t.Fatalf("%s: a fuse of %d: Unmount: %d", l.name, fuse, err)
			}
			if !slices.Equal(x.d.History(), l.ops[:fuse]) || !x.d.Stopped() {
				t.Fatalf("%s: a fuse of %d: other things were done", l.name, fuse)
			}
			if fuse%60 == 3 {
				refuses(t, x.s, api.ErrDead)
			}
		}
	}
	for _, kind := range []api.CallKind{api.CallOpen, api.CallWrite, api.CallTruncate, api.CallClose, api.CallMkdir, api.CallLink, api.CallUnlink, api.CallRename, api.CallSync} {
		if died[kind] < 60 {
			t.Errorf("the disk stopped during %v", died)
		}
	}
}

// kept are some choices of what is kept of n pending writes; all of them, where these are few.
func kept(n int) [][]bool {
	var out [][]bool
	if n <= 2 {
		for bits := range 1 << n {
			var keep []bool
			for i := range n {
				keep = append(keep, bits>>i&1 == 1)
			}
			out = append(out, keep)
		}
		return out
	}
	c := rand.New(rand.NewSource(int64(n)))
	for k := range 5 {
		keep := make([]bool, n)
		for i := range keep {
			keep[i] = k == 1 || k == 2 && i == n-1 || k > 2 && c.Intn(2) == 0
		}
		out = append(out, keep)
	}
	return out
}

// finds asks whether the disk, opened, holds one of the states that it may, and tells which.
func (l *lived) finds(t *testing.T, d *disk.Disk, made int) (*world, int) {
	x := &world{d: d}
	x.open(t, empty(brief()))
	x.a = look(t, d.Image(), brief())
	for _, i := range l.may(made) {
		if likeItems(named(l.states[i]), x.a.items) {
			if lo, hi := l.bounds(made); i < lo || i > hi {
				t.Fatalf("P4: behind %d things: state %d, not from %d to %d", made, i, lo, hi)
			}
			return x, i
		}
	}
	t.Fatalf("P4: behind %d things: none of the states %v", made, l.may(made))
	return nil, 0
}

// P4, P6: wherever the disk stops, and whatever of what is pending is kept: opening finds a state that there was behind a step, not ahead of what was synced, and no orphan; and it goes on from there (P5).
func TestPower(t *testing.T) {
	t.Parallel()
	for _, l := range lives(t) {
		found := map[int]bool{}
		for made := l.from; made <= l.to; made++ {
			for i, keep := range kept(len(past.Pending(l.ops, made))) {
				left, err := past.After(l.im, l.ops, made, keep)
				ok(t, err)
				x, state := l.finds(t, load(t, left), made)
				found[state] = true
				if i == 0 && made%7 == 0 {
					goesOn(t, x)
				}
			}
		}
		if len(found) < 2 {
			t.Errorf("%s: the states %v were found", l.name, found)
		}
	}
}

// goesOn makes some calls of a system that was opened when the power had gone.
func goesOn(t *testing.T, x *world) {
	x.all(t, listing("/"), opening("/b", nu), seeking(0, 0, 2), writing(0, sown(7, 9000)), seeking(0, 0, 0), reading(0, 65536), making("/d"), renaming("/d", "/k"), making("/k/x"), renaming("/k/x", "/h/x"), opening("/h/y", nu), linking("/b", "/j/b"), unlinking("/b"), unlinking("/j/b"), closing(0), unlinking("/a"), closing(1), listing("/j"))
	x.whole(t)
	x.again(t)
	x.whole(t)
}

// P4: the disk stops while it is opened, again and again, each time with other writes kept: what is found at last is a state that might be found at first.
func TestPowerWhileOpening(t *testing.T) {
	c := rand.New(rand.NewSource(27))
	for name, row := range rows() {
		l := live(t, name, town(t, brief()), row)
		stops := 0
		for made := range len(l.ops) + 1 {
			pending := len(past.Pending(l.ops, made))
			keep := make([]bool, pending)
			for i := range keep {
				keep[i] = c.Intn(3) > 0
			}
			left, err := past.After(l.im, l.ops, made, keep)
			ok(t, err)
			d := load(t, left)
			for range 1 + c.Intn(4) {
				d.Fuse(c.Intn(20))
				if s, err := tree.Open(d); err == api.OK {
					// It has gone through: nothing was done on it yet.
					if s == nil || s.Volume().Log().Used() > 0 {
						t.Fatal("something is not committed")
					}
				} else if stops++; s != nil || err != api.ErrDead {
					t.Fatalf("%s: %v, %d", name, s, err)
				}
				some := make([]bool, 40)
				for i := range some {
					some[i] = c.Intn(2) == 0
				}
				ok(t, d.Crash(some))
			}
			l.finds(t, d, made)
		}
		if stops < 5 {
			t.Errorf("%s: %d stops", name, stops)
		}
	}
}

// P3: whatever is refused, and whatever takes no step, is the same on a disk that would stop at the next write.
func TestFuse(t *testing.T) {
	x := newWorld(t, leaves(t, full(t, town(t, brief()), "/full", 64), 0))
	x.fine(t, opening("/b", rw), opening("/d", rd), opening("/d/f", rw), unlinking("/h"), unlinking("/d/e/i"))
	x.fine(t, renaming("/a", "/x"), syncing(), renaming("/x", "/a"), writing(0, sown(1, 100)))
	for x.a.free() > 0 {
		x.fine(t, seeking(0, 0, 2), writing(0, sown(2, 1024)))
	}
	x.d.Fuse(0)
	before := x.a.steps
	x.all(t,
		stating("/"), stating("/x"), listing("/d"), listing("/a"), reading(0, 65536), reading(1, 1), seeking(0, 0, 2), writing(0, nil), writing(0, sown(1, 5000)), truncating(2, 100), truncating(2, -1), opening("/b", nu|ex), opening("/full/new", nu), opening("/d", rw), opening("/j/k", rd), closing(9),
		making("/d/new"), making("/full"), linking("/a", "/full/new"), linking("/d", "/y"), linking("/a", "/g"), unlinking("/j"), unlinking("/"), unlinking("/x"), renaming("/a", "/full/new"), renaming("/d", "/d/e/d"), renaming("/d", "/j"), renaming("/g", "/d/f"), renaming("/a", "/a"), closing(1), api.Call{},
	)
	if x.a.steps != before || x.d.Stopped() || x.d.Barrier() != api.ErrDead {
		t.Error("the fuse is not as it was")
	}
}
