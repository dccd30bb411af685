package chart_test

import (
	"maps"
	"math/rand"
	"testing"

	"undercroft/api"
	"undercroft/chart"
	"undercroft/disk"
	"undercroft/rack"
	"undercroft/room"
	"undercroft/wal"
)

// choices are all lists of what is kept of n pending writes.
func choices(n int) [][]bool {
	var out [][]bool
	for bits := range 1 << n {
		keep := make([]bool, n)
		for i := range keep {
			keep[i] = bits>>i&1 == 1
		}
		out = append(out, keep)
	}
	return out
}

// recovered is a new log of a disk whose power has gone.
func recovered(t testing.TB, d *disk.Disk, where api.Layout) *wal.Log {
	t.Helper()
	if _, err := wal.Recover(d, where); err != api.OK {
		t.Fatalf("Recover: %d", err)
	}
	return newLog(t, d, where)
}

// before is a disk that a group finds. The single index block is 42; 37, 38 and 39 are free.
func before(t testing.TB) *account {
	t.Helper()
	return made(t, small(t)).own(2, falling(42), 10, 3)
}

// group is a group of two steps: behind it 3 is no longer mapped, and 266 is.
func group(t testing.TB, l *wal.Log) {
	t.Helper()
	ok(t, l.Begin(8))
	mapIt(t, l, 2, 266, 39, api.OK)
	ok(t, l.End(), l.Begin(8))
	drop(t, l, 2, 3, 1, 1, api.OK)
	ok(t, l.End())
	if l.Used() != 5 { // 35, 37, 38, 39, 33
		t.Fatalf("the group has %d blocks", l.Used())
	}
}

// Behind the group, and ahead of it.
var (
	mappedBehind = []pair{{10, 41}, {266, 39}}
	mappedBefore = []pair{{3, 40}, {10, 41}}
	nodeBehind   = api.Node{Kind: api.KindFile, Links: 1, Size: 5, Blocks: 5, Single: 42, Double: 37}
	nodeBefore   = api.Node{Kind: api.KindFile, Links: 1, Size: 5, Blocks: 3, Direct: [10]uint32{3: 40}, Single: 42}
)

// holds asks whether a log's file is as told, and how many blocks are free.
func holds(t testing.TB, l *wal.Log, behind bool) {
	t.Helper()
	mapped, n, left := mappedBefore, nodeBefore, 3
	if behind {
		mapped, n, left = mappedBehind, nodeBehind, 1
	}
	all(t, l, 2, mapped...)
	for _, p := range mapped {
		at(t, l, 2, p.index, p.at, api.OK)
	}
	last(t, l, 2, 0, mapped[1].index, api.OK)
	if got, err := rack.Read(l, 2); got != n || err != api.OK {
		t.Errorf("the inode is %v, %d, not %v", got, err, n)
	}
	free(t, l, left)
}

// A group that is committed, in whichever way, stands when the power goes, and one goes on from there.
func TestCommitted(t *testing.T) {
	ways := map[string]func(l *wal.Log) api.Errno{
		"Sync":  (*wal.Log).Sync,
		"Close": (*wal.Log).Close,
		"Begin": func(l *wal.Log) api.Errno { return l.Begin(31) },
	}
	for name, commit := range ways {
		t.Run(name, func(t *testing.T) {
			a := before(t)
			d := load(t, a.image())
			l := newLog(t, d, a.where)
			holds(t, l, false)
			group(t, l)
			holds(t, l, true)
			ok(t, commit(l))
			if name != "Close" {
				holds(t, l, true)
			}
			d.Crash(nil)
			l = recovered(t, d, a.where)
			holds(t, l, true)
			ok(t, l.Begin(8))
			mapIt(t, l, 2, 267, 40, api.OK)
			mapIt(t, l, 2, 0, 0, api.ErrNoSpace)
			drop(t, l, 2, 0, 65802, 6, api.OK)
			free(t, l, 6)
		})
	}
}

// A group that is not committed is lost with the power, in the middle of a step or behind it: the file is as it was.
func TestNotCommitted(t *testing.T) {
	for _, open := range []bool{false, true} {
		a := before(t)
		d := load(t, a.image())
		l := newLog(t, d, a.where)
		group(t, l)
		if open {
			ok(t, l.Begin(8))
			mapIt(t, l, 2, 267, 40, api.OK)
		}
		if d.Made() != 0 {
			t.Fatalf("%d things were done", d.Made())
		}
		d.Crash(nil)
		refusesAll(t, l, api.ErrDead)
		l = recovered(t, d, a.where)
		holds(t, l, false)
		group(t, l)
		holds(t, l, true)
	}
}

// The calls carry out no write and no barrier, so that no fuse stops the disk in one of them: they are answered as on any disk, and the next thing that somebody does stops it; from then on all are ErrDead, and nothing of the step is found.
func TestFuse(t *testing.T) {
	calls := map[string]func(t *testing.T, l *wal.Log){
		"At":   func(t *testing.T, l *wal.Log) { at(t, l, 2, 10, 41, api.OK) },
		"Need": func(t *testing.T, l *wal.Log) { need(t, l, 2, 0, 300, 300-2+2, api.OK) },
		"Last": func(t *testing.T, l *wal.Log) { last(t, l, 2, 0, 10, api.OK) },
		"All":  func(t *testing.T, l *wal.Log) { all(t, l, 2, mappedBefore...) },
		"Map":  func(t *testing.T, l *wal.Log) { mapIt(t, l, 2, 522, 39, api.OK) },
		"Drop": func(t *testing.T, l *wal.Log) { drop(t, l, 2, 0, 65802, 3, api.OK) },
	}
	for name, call := range calls {
		for fuse := range 9 {
			a := before(t)
			d := load(t, a.image())
			l := newLog(t, d, a.where)
			ok(t, l.Begin(9))
			d.Fuse(fuse)
			call(t, l)
			if d.Made() != 0 || d.Stopped() {
				t.Fatalf("%s, a fuse of %d: %d things done", name, fuse, d.Made())
			}
			for range fuse {
				ok(t, d.Barrier())
			}
			if d.Barrier() != api.ErrDead {
				t.Fatalf("%s, a fuse of %d: the call has put it off", name, fuse)
			}
			refusesAll(t, l, api.ErrDead)
			d.Crash(nil)
			holds(t, recovered(t, d, a.where), false)
		}
	}
}

// A group whose commit is stopped, at every write and barrier and with each choice of what is kept: all calls are ErrDead, and all of the group is found, or nothing.
func TestStoppedCommit(t *testing.T) {
	const n = 5
	a := before(t)
	im := a.image()
	ways := map[string]func(l *wal.Log) api.Errno{
		"Sync":  (*wal.Log).Sync,
		"Begin": func(l *wal.Log) api.Errno { return l.Begin(31) },
	}
	for name, commit := range ways {
		for fuse := range 2*n + 6 {
			stopped := func() (*disk.Disk, *wal.Log) {
				d := load(t, im)
				l := newLog(t, d, a.where)
				group(t, l)
				d.Fuse(fuse)
				if err := commit(l); err != api.ErrDead || d.Made() != fuse {
					t.Fatalf("%s, a fuse of %d: %d, %d things", name, fuse, err, d.Made())
				}
				return d, l
			}
			d, l := stopped()
			refusesAll(t, l, api.ErrDead)
			for _, keep := range choices(len(d.Pending())) {
				d, _ := stopped()
				d.Crash(keep)
				l := recovered(t, d, a.where)
				behind := fuse > n+2 || fuse == n+2 && keep[0] // the header is held
				holds(t, l, behind)
				if !behind {
					group(t, l)
				}
				holds(t, l, true)
			}
		}
	}
}

// Many lives of one disk, drawn anew the same way each time: what is found is the file as it was behind the last commit, and all that is used has an owner.
func TestManyLives(t *testing.T) {
	a := made(t, ten(t))
	draw := rand.New(rand.NewSource(12))
	d := load(t, a.image())
	for life := range 40 {
		l := recovered(t, d, a.where)
		w := &world{d: d, l: l, a: a}
		w.agree(t, 1, 2)
		w.kept(t, 2, 38)
		safe := maps.Clone(a.now)
		for range 1 + draw.Intn(12) {
			now, commits := maps.Clone(a.now), l.Commits()
			if draw.Intn(6) == 0 {
				w.do(t, syncing())
			} else {
				w.do(t, step(9, drawnAct(draw, life)))
			}
			if l.Commits() != commits { // a step's beginning may commit the steps ahead of it
				safe = now
			}
		}
		w.agree(t, 1, 2)
		w.kept(t, 2, 38)
		d.Crash(nil)
		if _, err := chart.At(l, 2, 0); err != api.ErrDead {
			t.Fatalf("At of a dead log: %d", err)
		}
		if _, err := room.Free(l); err != api.ErrDead {
			t.Fatalf("Free of a dead log: %d", err)
		}
		a = &account{where: a.where, now: safe}
	}
}

// drawnAct is a Map, or now and then a Drop. (None of them is ErrTight in a step of nine blocks: a span of so few indices, or of all, leaves few index blocks to be written.)
func drawnAct(draw *rand.Rand, life int) act {
	index := []int{draw.Intn(12), draw.Intn(300), 266 + draw.Intn(1000), draw.Intn(65802)}[draw.Intn(4)]
	switch {
	case life%10 == 9:
		return dropping(2, 0, 65802)
	case draw.Intn(4) == 0:
		return dropping(2, index, min(1+draw.Intn(300), 65802-index))
	}
	return mapping(2, index)
}
