package files_test

import (
	"maps"
	"math/rand"
	"slices"
	"testing"

	"undercroft/api"
	"undercroft/past"
)

// brief is a geometry of which there are many images: the inodes are 33 and 34, the bitmap is 35, the data 36 to 149.
func brief() api.Geometry { return api.Geometry{Blocks: 150, Log: 32, Inodes: 20} }

// turn is a call of one of both files, or something beside them.
type turn struct {
	who  int
	call api.Call
}

// rows are calls of all kinds, such that all kinds of steps are on their way when the disk stops.
func rows() map[string][]turn {
	first := func(calls ...api.Call) []turn {
		var l []turn
		for _, c := range calls {
			l = append(l, turn{0, c})
		}
		return l
	}
	other := func(c api.Call) turn { return turn{1, c} }
	return map[string][]turn{
		"written": first(
			opening(2, rw), writing(0, sown(1, 20000)), reading(0, 9), seeking(0, 9*1024, 0), writing(0, sown(2, 3000)), syncing(),
			seeking(0, 265*1024, 0), writing(0, sown(3, 9000)), writing(0, sown(4, 1)), stating(0), closing(0),
		),
		"truncated": slices.Concat(
			first(opening(3, rw), truncating(0, 300000), seeking(0, 0, 2), writing(0, sown(1, 5000)), seeking(0, 30000, 0), writing(0, sown(1, 9000)), syncing(), truncating(0, 100), truncating(0, 50000)),
			[]turn{other(opening(4, wr|tr)), other(writing(0, sown(5, 17000))), other(opening(4, wr|tr))},
			first(truncating(0, 0), opening(3, wr|tr)),
		),
		"orphans": slices.Concat(
			first(opening(2, rw), writing(0, sown(1, 17000)), seeking(0, 300000, 0), writing(0, sown(2, 10)), opening(5, rd), opening(2, rd), opening(6, rw|tr)),
			[]turn{other(opening(2, rd)), other(opening(4, rd))},
			first(unlinking(nameOf(2)), unlinking(nameOf(5)), unlinking("second"), unlinking(nameOf(4)), closing(1), closing(0), syncing(), closing(3)),
			[]turn{other(closing(0)), other(closing(1))},
			first(closing(2)),
		),
		"small": first(opening(8, rw), opening(9, wr), writing(0, sown(1, 1)), truncating(1, 5), truncating(1, 2000), syncing(), truncating(0, 1), writing(1, sown(1, 3)), unlinking(nameOf(8)), closing(0), closing(1)),
		// Each call finds the group full.
		"crowded": first(
			opening(2, rw), crowding(31), writing(0, sown(1, 9000)), opening(3, rw), crowding(31), truncating(1, 100), crowding(31), truncating(1, 5000), syncing(), opening(4, rw), unlinking(nameOf(4)),
			crowding(31), opening(3, wr|tr), crowding(31), closing(2),
		),
	}
}

// lived is what came of a row of calls that nothing stopped.
type lived struct {
	im      api.Image // ahead of it
	row     []turn
	results []api.Result
	made    []int // how many things were done to the disk, behind each call
	steps   []int // how many steps there were, behind each call
	states  []map[int]*thing
	ops     []api.Op
}

func live(t testing.TB, im api.Image, row []turn) *lived {
	t.Helper()
	x := newWorld(t, im, brief())
	x.a.keeps, x.a.states = true, []map[int]*thing{copied(x.a.things)}
	l := &lived{im: im, row: row}
	for _, turn := range row {
		got := x.do(t, turn.who, turn.call)
		if got.Err != api.OK {
			t.Fatalf("kind %d: %+v", turn.call.Kind, short(got))
		}
		l.results, l.made, l.steps = append(l.results, got), append(l.made, x.d.Made()), append(l.steps, x.a.steps)
	}
	ok(t, x.v.Close())
	l.states, l.ops = x.a.states, x.d.History()
	return l
}

// Rule 7: the disk stops at each write and barrier of each call: that call is ErrDead and tells nothing else, and so is all that is called later; ahead of it all is answered as without a fuse.
func TestStopped(t *testing.T) {
	im := village(t, brief())
	died := map[api.CallKind]int{}
	for name, row := range rows() {
		l := live(t, im, row)
		for fuse := range l.made[len(row)-1] {
			x := newWorld(t, im, brief())
			x.d.Fuse(fuse)
			for i, turn := range row {
				want := l.results[i]
				if l.made[i] > fuse {
					want = wrong(api.ErrDead)
				}
				if l.made[i] > fuse && (i == 0 || l.made[i-1] <= fuse) {
					died[turn.call.Kind]++
				}
				if got := x.ask(turn.who, turn.call); !like(got, want) {
					t.Fatalf("%s: a fuse of %d: call %d: %+v, not %+v", name, fuse, i, short(got), short(want))
				}
			}
			if !slices.Equal(x.d.History(), l.ops[:fuse]) || !x.d.Stopped() {
				t.Fatalf("%s: a fuse of %d: other things were done", name, fuse)
			}
			if fuse%40 == 3 {
				refuses(t, x.f[0], api.ErrDead)
				refuses(t, x.f[1], api.ErrDead)
			}
		}
	}
	for _, kind := range []api.CallKind{api.CallOpen, api.CallWrite, api.CallTruncate, api.CallClose} {
		if died[kind] < 50 {
			t.Errorf("the disk stopped during %v", died)
		}
	}
}

// An Open that the disk's stopping ended has told no descriptor: none is left open, and nothing held.
func TestStoppedOpen(t *testing.T) {
	x := newWorld(t, village(t, brief()), brief())
	for range 15 {
		x.all(t, opening(3, rd))
	}
	x.all(t, crowding(31))
	x.d.Fuse(0)
	if got := asked(x.f[0], opening(4, wr|tr)); !like(got, wrong(api.ErrDead)) {
		t.Fatalf("%+v", short(got))
	}
	if x.f[0].Full() || !maps.Equal(maps.Collect(x.v.Desk().All()), map[int]int{3: 15}) {
		t.Error("something is open, or held")
	}
}

// bounds are the numbers of the first and the last state that may be found when so many things were done.
func (l *lived) bounds(made int) (int, int) {
	lo := 0
	for i, turn := range l.row {
		if l.made[i] > made {
			return lo, l.steps[i] // this one was on its way
		}
		if turn.call.Kind == api.CallSync {
			lo = l.steps[i]
		}
	}
	return lo, len(l.states) - 1
}

// kept are some choices of what is kept of n pending writes; all of them, where these are few.
func kept(n int) [][]bool {
	var out [][]bool
	if n <= 3 {
		for bits := range 1 << n {
			var keep []bool
			for i := range n {
				keep = append(keep, bits>>i&1 == 1)
			}
			out = append(out, keep)
		}
		return out
	}
	c := rand.New(rand.NewSource(int64(n)))
	for k := range 6 {
		keep := make([]bool, n)
		for i := range keep {
			keep[i] = k == 1 || k == 2 && i == n-1 || k == 3 && i > 0 || k > 3 && c.Intn(2) == 0
		}
		out = append(out, keep)
	}
	return out
}

// withNames are the things of a state that have names.
func withNames(state map[int]*thing) map[int]*thing {
	out := maps.Clone(state)
	maps.DeleteFunc(out, func(_ int, x *thing) bool { return x.links == 0 })
	return out
}

// P4, P6: wherever the disk stops, and whatever of what is pending is kept: mounting finds a state that there was behind a step, not ahead of what was synced; and it goes on from there (P5).
func TestPower(t *testing.T) {
	im := village(t, brief())
	for name, row := range rows() {
		l := live(t, im, row)
		found := map[int]bool{}
		for made := range len(l.ops) + 1 {
			lo, hi := l.bounds(made)
			for i, keep := range kept(len(past.Pending(l.ops, made))) {
				left, err := past.After(im, l.ops, made, keep)
				ok(t, err)
				x := &world{d: load(t, left)}
				x.mount(t, newAccount(brief(), nil))
				x.a.things = look(t, x.d.Image(), brief())
				at := slices.IndexFunc(l.states[lo:hi+1], func(state map[int]*thing) bool { return likeThings(withNames(state), x.a.things) })
				if at < 0 {
					t.Fatalf("%s: behind %d things, kept %v: that is no state from %d to %d", name, made, keep, lo, hi)
				}
				found[lo+at] = true
				if i == 0 && made%3 == 0 {
					goesOn(t, x)
				}
			}
		}
		if len(found) < 3 {
			t.Errorf("%s: the states %v were found", name, found)
		}
	}
}

// goesOn makes some calls of a volume that was mounted when the power had gone.
func goesOn(t *testing.T, x *world) {
	x.all(t, opening(3, rw), seeking(0, 0, 2), writing(0, sown(7, 9000)), seeking(0, 0, 0), reading(0, 65536), truncating(0, 100), opening(4, rd), unlinking(nameOf(3)), closing(0), closing(1), opening(2, rd), reading(0, 30000))
	x.whole(t)
}

// Whatever is refused, and whatever takes no step, is the same on a disk that would stop at the next write.
func TestFuse(t *testing.T) {
	x := newWorld(t, village(t, snug()), snug())
	x.all(t, opening(2, rw), opening(1, rd), opening(4, rd), opening(7, rw))
	spared(t, x, 3, 0)
	ok(t, x.v.Sync())
	x.all(t, seeking(3, 100, 0), writing(3, sown(1, 10))) // so that there is something to commit
	x.d.Fuse(0)
	x.all(t,
		reading(0, 10), reading(1, 10), reading(2, 65536), reading(2, 65537), reading(9, 1), seeking(2, 99990, 0), reading(2, 500), stating(2), stating(1),
		writing(0, nil), writing(0, sown(1, 1)), writing(0, make([]byte, 65537)), writing(1, nil), seeking(0, api.MaxFile, 0), writing(0, sown(1, 1)), writing(0, nil),
		truncating(0, 0), truncating(0, -1), truncating(0, api.MaxFile+1), truncating(2, 5), opening(2, wr|tr), opening(2, 0), opening(1, wr), opening(19, rd), opening(0, rd), closing(4), closing(9), closing(0), closing(1),
	)
	if x.d.Stopped() || x.d.Barrier() != api.ErrDead {
		t.Error("the fuse is not as it was")
	}
}
