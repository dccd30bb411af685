package wal_test

import (
	"maps"
	"math/rand"
	"slices"
	"testing"

	"undercroft/api"
	"undercroft/disk"
	"undercroft/wal"
)

// change is a block that a step changes.
type change struct {
	at   int
	data api.Block
}

// state is what a disk holds outside the log.
type state map[int]api.Block

// outside is the state that an image has.
func outside(where api.Layout, im api.Image) state {
	s := state{}
	for i := range im.Data {
		if at := im.Data[i].Index; at < where.LogAt || at >= where.NodeAt {
			s[at] = im.Data[i].Data
		}
	}
	return s
}

// behind is a state with changes made.
func (s state) behind(changes []change) state {
	next := maps.Clone(s)
	for _, c := range changes {
		next[c.at] = c.data
		if c.data == (api.Block{}) {
			delete(next, c.at)
		}
	}
	return next
}

// choices are lists of what is kept of n pending writes: all there are if n is small; else none, all, each alone, all but each, every second one, halves.
func choices(n int) [][]bool {
	var out [][]bool
	if n <= 5 {
		for bits := range 1 << n {
			keep := make([]bool, n)
			for i := range keep {
				keep[i] = bits>>i&1 == 1
			}
			out = append(out, keep)
		}
		return out
	}
	add := func(kept func(i int) bool) {
		keep := make([]bool, n)
		for i := range keep {
			keep[i] = kept(i)
		}
		out = append(out, keep)
	}
	add(func(int) bool { return false })
	add(func(int) bool { return true })
	for k := range 3 {
		at := k * (n - 1) / 2
		add(func(i int) bool { return i == at })
		add(func(i int) bool { return i != at })
		add(func(i int) bool { return i < at })
		add(func(i int) bool { return i >= at })
	}
	add(func(i int) bool { return i%2 == 0 })
	add(func(i int) bool { return i%2 == 1 })
	return out
}

// script is a list of groups that a log is given, each a list of steps.
type script struct {
	where  api.Layout
	image  api.Image
	groups [][][]change
}

// size is how many blocks a group has.
func size(group [][]change) int {
	met := map[int]struct{}{}
	for _, c := range slices.Concat(group...) {
		met[c.at] = struct{}{}
	}
	return len(met)
}

// run gives a log its groups, each being committed as the caller says, and tells how many commits were over when the disk stopped.
func (s script) run(t testing.TB, d *disk.Disk, commit func(l *wal.Log) api.Errno) int {
	l := newLog(t, d, s.where)
	for i, group := range s.groups {
		for _, step := range group {
			if err := l.Begin(len(step)); err != api.OK {
				t.Fatalf("group %d: Begin: %d", i, err)
			}
			for _, c := range step {
				if err := l.Write(c.at, c.data); err != api.OK {
					t.Fatalf("group %d: Write(%d): %d", i, c.at, err)
				}
			}
			if err := l.End(); err != api.OK {
				t.Fatalf("group %d: End: %d", i, err)
			}
		}
		if err := commit(l); err != api.OK {
			if err != api.ErrDead || !d.Stopped() {
				t.Fatalf("group %d: its commit: %d", i, err)
			}
			refusesAll(t, l, api.ErrDead)
			return i
		}
		if d.Stopped() {
			t.Fatalf("group %d: its commit is OK on a disk that has stopped", i)
		}
		l = nextLog(t, l, d, s.where)
	}
	return len(s.groups)
}

// nextLog is the log for the next group: a new one, if the old one is closed; a step is open if Begin was to commit.
func nextLog(t testing.TB, l *wal.Log, d *disk.Disk, where api.Layout) *wal.Log {
	if l.Check() == api.ErrNil {
		return newLog(t, d, where)
	}
	if l.Open() && l.End() != api.OK {
		t.Fatal("a step that does nothing")
	}
	if l.Used() != 0 {
		t.Fatalf("behind a commit: Used %d", l.Used())
	}
	return l
}

// commits are the three ways to have a group committed.
func commits(where api.Layout) map[string]func(l *wal.Log) api.Errno {
	return map[string]func(l *wal.Log) api.Errno{
		"Sync":  (*wal.Log).Sync,
		"Close": (*wal.Log).Close,
		"Begin": func(l *wal.Log) api.Errno { return l.Begin(where.Geometry.Log - 1) },
	}
}

// found is what recovery has to come to: the state, and how many blocks are put in place.
type found struct {
	state state
	n     int
}

// finds tells by the document's words what is found behind over commits and done things of the next one, of a group of n blocks, where keep says what is kept of those that are pending.
func finds(states []state, over, done, n int, keep []bool) found {
	header := done > n+2 || (done == n+2 && keep[0])
	noughts := done > 2*n+5 || (done == 2*n+5 && keep[0])
	switch {
	case !header:
		return found{states[over], 0}
	case noughts:
		return found{states[over+1], 0}
	}
	return found{states[over+1], n}
}

// everywhere has the disk stop at every place of a script, with each choice of what is kept.
func (s script) everywhere(t *testing.T, commit func(l *wal.Log) api.Errno, deep bool) {
	t.Helper()
	states := []state{outside(s.where, s.image)}
	total := 0
	for i, group := range s.groups {
		states = append(states, states[i].behind(slices.Concat(group...)))
		total += 2*size(group) + 6
	}
	for fuse := 0; fuse < total; fuse++ {
		stopped := func() (*disk.Disk, int) {
			d := load(t, s.image)
			d.Fuse(fuse)
			return d, s.run(t, d, commit)
		}
		d, over := stopped()
		if over == len(s.groups) || d.Made() != fuse {
			t.Fatalf("a fuse of %d of %d: %d commits are over", fuse, total, over)
		}
		done := fuse
		for _, group := range s.groups[:over] {
			done -= 2*size(group) + 6
		}
		for _, keep := range choices(len(d.Pending())) {
			d, _ := stopped()
			d.Crash(keep)
			want := finds(states, over, done, size(s.groups[over]), keep)
			if deep {
				recoversStopped(t, s.where, d.Image(), want, 2)
			}
			recoversTo(t, s.where, d, want)
		}
	}
	d := load(t, s.image)
	if over := s.run(t, d, commit); over != len(s.groups) || d.Made() != total {
		t.Fatalf("a disk that does not stop: %d commits, %d things, not %d", over, d.Made(), total)
	}
	d.Crash(nil)
	recoversTo(t, s.where, d, found{states[len(s.groups)], 0})
}

// recoversTo has a disk recovered, and asks for what it holds; then again, when nothing is written.
func recoversTo(t *testing.T, where api.Layout, d *disk.Disk, want found) {
	t.Helper()
	made := d.Made()
	n, err := wal.Recover(d, where)
	if n != want.n || err != api.OK {
		t.Fatalf("Recover: %d, %d, not %d", n, err, want.n)
	}
	if (d.Made() == made) != (n == 0) || len(d.Pending()) != 0 {
		t.Fatalf("Recover of %d blocks: %d things, %v pending", n, d.Made()-made, d.Pending())
	}
	if !maps.Equal(outside(where, d.Image()), want.state) {
		t.Fatalf("what is recovered is not the state that should be; Recover of %d blocks", n)
	}
	made = d.Made()
	if n, err := wal.Recover(d, where); n != 0 || err != api.OK || d.Made() != made {
		t.Fatalf("Recover again: %d, %d, %d things", n, err, d.Made()-made)
	}
	newLog(t, d, where)
}

// recoversStopped has a recovery stopped at every place, with each choice of what is kept, then begun anew, so many times one in the other.
func recoversStopped(t *testing.T, where api.Layout, im api.Image, want found, times int) {
	t.Helper()
	if want.n == 0 || times == 0 {
		recoversTo(t, where, load(t, im), want)
		return
	}
	for fuse := range want.n + 3 {
		stopped := func() *disk.Disk {
			d := load(t, im)
			d.Fuse(fuse)
			if n, err := wal.Recover(d, where); n != 0 || err != api.ErrDead || !d.Stopped() || d.Made() != fuse {
				t.Fatalf("Recover of a disk that stops at %d: %d, %d, %d things", fuse, n, err, d.Made())
			}
			return d
		}
		for _, keep := range choices(len(stopped().Pending())) {
			d := stopped()
			d.Crash(keep)
			rest := want
			if fuse == want.n+2 && keep[0] { // the header of noughts
				rest.n = 0
			}
			recoversStopped(t, where, d.Image(), rest, times-1)
		}
	}
}

// P8.3, P8.4: small groups, at every place, with all choices; blocks that are changed again, also to noughts and to what they were; stopped recoveries two deep.
func TestPowerGoes(t *testing.T) {
	where := small(t)
	im := newDisk(t, where, 2, api.Block{}).Image()
	blank, was := api.Block{}, first(where, 35)
	scripts := map[string][][][]change{
		"one block":    {{{{36, numbered(1)}}}},
		"two blocks":   {{{{36, numbered(1)}, {35, numbered(2)}}}},
		"three steps":  {{{{39, numbered(1)}}, {{33, numbered(2)}, {39, numbered(3)}}, {{34, numbered(4)}}}},
		"two groups":   {{{{36, numbered(1)}, {35, numbered(2)}}}, {{{35, numbered(3)}, {37, numbered(4)}}}},
		"noughts":      {{{{35, blank}, {36, numbered(1)}}}, {{{36, blank}, {35, was}}}},
		"three groups": {{{{35, numbered(1)}}}, {{{35, was}, {36, numbered(2)}}}, {{{36, numbered(3)}, {35, numbered(4)}, {33, numbered(5)}}}},
	}
	for name, groups := range scripts {
		for way, commit := range commits(where) {
			t.Run(name+" by "+way, func(t *testing.T) {
				script{where, im, groups}.everywhere(t, commit, way == "Sync")
			})
		}
	}
}

// fullGroup changes as many blocks as a group may have, in steps of as many.
func fullGroup(where api.Layout, seed int) [][]change {
	var changes []change
	for i, at := range shuffled(where, where.Geometry.Log-1) {
		changes = append(changes, change{at, numbered(1000*seed + i)})
	}
	var group [][]change
	for step := range slices.Chunk(changes, 8) {
		group = append(group, step)
	}
	return group
}

// P8.3, P8.4: groups as large as they may be, one over the other, on the least log and on the largest.
func TestPowerGoesInFullGroups(t *testing.T) {
	where := layout(t, 80, 32, 60)
	s := script{where, newDisk(t, where, 1, api.Block{}).Image(), [][][]change{fullGroup(where, 1), fullGroup(where, 2)}}
	s.everywhere(t, (*wal.Log).Sync, false)

	where = layout(t, 600, 256, 60)
	im := newDisk(t, where, 1, api.Block{}).Image()
	s = script{where, im, [][][]change{fullGroup(where, 3)}}
	states := []state{outside(where, im), outside(where, im).behind(slices.Concat(s.groups[0]...))}
	for _, fuse := range []int{0, 1, 254, 255, 256, 257, 258, 400, 512, 513, 514, 515} {
		stopped := func() *disk.Disk {
			d := load(t, im)
			d.Fuse(fuse)
			if over := s.run(t, d, (*wal.Log).Sync); over != 0 {
				t.Fatalf("a fuse of %d: the commit is over", fuse)
			}
			return d
		}
		for _, keep := range choices(len(stopped().Pending())) {
			d := stopped()
			d.Crash(keep)
			recoversTo(t, where, d, finds(states, 0, fuse, 255, keep))
		}
	}
}

// P8.3: what an open step has written, and the steps of a group that was not committed, are on no disk.
func TestPowerGoesInStep(t *testing.T) {
	for _, open := range []bool{false, true} {
		w := lively(t, open)
		pending := w.d.Pending()
		if len(pending) != 0 {
			t.Fatalf("%v are pending", pending)
		}
		w.d.Crash(nil)
		where := w.a.where
		want := outside(where, newDisk(t, where, 2, api.Block{}).Image()).behind([]change{{35, numbered(3)}, {36, numbered(4)}})
		recoversTo(t, where, w.d, found{want, 0})
	}
}

// P8.4: Recover behind a Sync, a Close and a Begin that committed: 0, nothing is written, and the log lives on.
func TestRecoverBehindCommit(t *testing.T) {
	w := newWorld(t, small(t))
	quiet := func() {
		t.Helper()
		made := w.d.Made()
		if n, err := wal.Recover(w.d, w.a.where); n != 0 || err != api.OK || w.d.Made() != made {
			t.Errorf("Recover: %d, %d, %d things", n, err, w.d.Made()-made)
		}
		w.agree(t)
	}
	quiet()
	w.do(t, step(2, 36, 37))
	quiet()
	w.do(t, syncing())
	quiet()
	w.do(t, step(2, 36, 38), beginning(31))
	quiet()
	w.do(t, writing(39))
	quiet()
	w.do(t, ending(), closing())
	quiet()
	w.written(t)
}

// P8.1: a recovery that is not stopped lets a fuse that is long enough be; one shorter by one stops it at its last barrier.
func TestRecoverFuse(t *testing.T) {
	where := small(t)
	for n := 1; n <= 3; n++ {
		for fuse := range n + 5 {
			d := newDisk(t, where, 0, header(from(35, n)...))
			d.Fuse(fuse)
			got, err := wal.Recover(d, where)
			if fuse < n+3 && (got != 0 || err != api.ErrDead || d.Made() != fuse) {
				t.Errorf("%d blocks, a fuse of %d: %d, %d", n, fuse, got, err)
			}
			if fuse >= n+3 && (got != n || err != api.OK || d.Made() != n+3 || d.Stopped()) {
				t.Errorf("%d blocks, a fuse of %d: %d, %d", n, fuse, got, err)
			}
		}
	}
}

// P8.3, P8.4: many lives of one disk, the power going at any place, drawn anew the same way each time: what is found is held against all that was committed.
func TestManyLives(t *testing.T) {
	where := layout(t, 120, 32, 60)
	for seed := range 12 {
		draw := rand.New(rand.NewSource(int64(100 + seed)))
		d := newDisk(t, where, 3, api.Block{})
		now := outside(where, d.Image())
		mark := 0
		for life := range 60 {
			n, err := wal.Recover(d, where)
			if err != api.OK || !maps.Equal(outside(where, d.Image()), now) {
				t.Fatalf("seed %d, life %d: Recover %d, %d: not the state that should be", seed, life, n, err)
			}
			now = live(t, d, where, draw, now, &mark)
		}
	}
}

// live has a log live till its disk stops and the power goes, and tells what recovery has to find.
func live(t *testing.T, d *disk.Disk, where api.Layout, draw *rand.Rand, now state, mark *int) state {
	t.Helper()
	l := newLog(t, d, where)
	d.Fuse(draw.Intn(200))
	var group []change
	// committing makes a call that may commit the group, and tells whether the disk has stopped; then now is what is to be found.
	committing := func(call func() api.Errno) bool {
		commits, made := l.Commits(), d.Made()
		if err := call(); err == api.ErrDead {
			keep := make([]bool, len(d.Pending()))
			for i := range keep {
				keep[i] = draw.Intn(2) == 0
			}
			now = finds([]state{now, now.behind(group)}, 0, d.Made()-made, size([][]change{group}), keep).state
			d.Crash(keep)
			return true
		} else if err != api.OK {
			t.Fatalf("a call that may commit: %d", err)
		}
		if l.Commits() > commits {
			now, group = now.behind(group), nil
		}
		return false
	}
	for {
		r := 1 + draw.Intn(23)
		if committing(func() api.Errno { return l.Begin(r) }) {
			return now
		}
		for range r {
			*mark++
			c := change{where.NodeAt + draw.Intn(where.Geometry.Blocks-where.NodeAt), numbered(*mark % 20000)}
			if err := l.Write(c.at, c.data); err != api.OK {
				t.Fatalf("Write(%d): %d", c.at, err)
			}
			group = append(group, c)
		}
		if err := l.End(); err != api.OK {
			t.Fatalf("End: %d", err)
		}
		if draw.Intn(4) == 0 && committing(l.Sync) {
			return now
		}
	}
}
