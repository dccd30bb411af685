package dir_test

import (
	"maps"
	"math/rand"
	"testing"

	"undercroft/api"
	"undercroft/dir"
	"undercroft/disk"
	"undercroft/wal"
)

// recovered is a new log of a disk whose power has gone.
func recovered(t testing.TB, d *disk.Disk, where api.Layout) *wal.Log {
	t.Helper()
	if _, err := wal.Recover(d, where); err != api.OK {
		t.Fatalf("Recover: %d", err)
	}
	return newLog(t, d, where)
}

// choices are some lists of what is kept of n pending writes: none, all, each alone, every second one.
func choices(n int) [][]bool {
	list := func(is func(i int) bool) []bool {
		keep := make([]bool, n)
		for i := range keep {
			keep[i] = is(i)
		}
		return keep
	}
	out := [][]bool{list(func(int) bool { return false })}
	if n == 0 {
		return out
	}
	out = append(out, list(func(int) bool { return true }), list(func(i int) bool { return i%2 == 0 }), list(func(i int) bool { return i%2 == 1 }))
	for one := range n {
		out = append(out, list(func(i int) bool { return i == one }))
	}
	return out
}

// like is which of some accounts a log's disk is like; -1: none.
func like(l *wal.Log, some []*account) int {
next:
	for i, a := range some {
		for at, want := range a.now {
			if at >= a.where.Geometry.Blocks {
				continue
			}
			if b, err := l.Read(at); b != want || err != api.OK {
				continue next
			}
		}
		return i
	}
	return -1
}

// Set and all that asks carry out no write and no barrier: no fuse stops the disk in them. A step that is not over is lost with the power.
func TestFuse(t *testing.T) {
	begin := made(t, ten(t)).lists(4, many(4, 640)...)
	for fuse := range 3 {
		w := newWorld(t, begin)
		w.d.Fuse(fuse)
		w.do(t, beginning(8), setting(4, 640, e(9, "new")), setting(4, 3, free), setting(4, 641, e(9, "newer")), asking(4), finding(4, "newer"))
		for range fuse {
			ok(t, w.d.Barrier())
		}
		if w.d.Barrier() != api.ErrDead {
			t.Fatalf("a fuse of %d: a call has put it off", fuse)
		}
		refusesAll(t, w.l, 4, api.ErrDead)
		ok(t, w.d.Crash(nil))
		if like(recovered(t, w.d, begin.where), []*account{begin}) != 0 {
			t.Fatalf("a fuse of %d: the disk has changed", fuse)
		}
	}
}

// The power going at each write and barrier of the commit of two entries, one of them in a block that is new, and of a slot that is freed: all of it is there, or nothing, and one goes on from there.
func TestStoppedSync(t *testing.T) {
	for _, n := range []int{64, 640} {
		begin := made(t, snug(t)).lists(4, many(4, n)...)
		change := func(w *world) {
			w.do(t, step(6, setting(4, n, e(9, "new"))), step(2, setting(4, n+1, e(9, "newer"))), step(1, setting(4, 5, free)))
		}
		whole := newWorld(t, begin)
		change(whole)
		some := []*account{begin, whole.a.copied()}
		whole.do(t, syncing())
		found := map[int]bool{}
		for fuse := range whole.d.Made() {
			stopped := func() *world {
				w := newWorld(t, begin)
				w.d.Fuse(fuse)
				change(w)
				if err := w.l.Sync(); err != api.ErrDead || w.d.Made() != fuse {
					t.Fatalf("a fuse of %d: %d, %d things", fuse, err, w.d.Made())
				}
				refusesAll(t, w.l, 4, api.ErrDead)
				return w
			}
			for _, keep := range choices(len(stopped().d.Pending())) {
				w := stopped()
				ok(t, w.d.Crash(keep))
				w.l = recovered(t, w.d, begin.where)
				k := like(w.l, some)
				if k < 0 {
					t.Fatalf("a fuse of %d: the entries are there in part", fuse)
				}
				found[k] = true
				w.a = some[k].copied()
				w.a.made = w.d.Made()
				w.do(t, asking(4), finding(4, "new"), finding(4, "newer"), finding(4, "n5"))
				change(w)
				w.do(t, asking(4), finding(4, "newer"))
				w.sound(t)
			}
		}
		if len(found) != 2 {
			t.Errorf("%d slots: found %v", n, found)
		}
	}
}

// What Set has answered is in the group that the next sync commits, and is not ahead of that.
func TestAnswered(t *testing.T) {
	for _, sync := range []bool{false, true} {
		w := newWorld(t, made(t, ten(t)))
		w.do(t, step(2, setting(1, 2, e(2, "a"))))
		if sync {
			w.do(t, syncing())
		}
		ok(t, w.d.Crash(nil))
		l := recovered(t, w.d, w.a.where)
		if slot, inum, err := dir.Find(l, 1, "a"); sync && (slot != 2 || inum != 2 || err != api.OK) || !sync && err != api.ErrNoEnt {
			t.Errorf("synced: %t: Find: %d, %d, %d", sync, slot, inum, err)
		}
	}
}

// Many lives of one disk, drawn anew the same way each time: what is found is the directories as they were behind the last commit.
func TestManyLives(t *testing.T) {
	draw := rand.New(rand.NewSource(19))
	a := made(t, layout(t, 80, 40, 20)).lists(4, many(4, 2)...).lists(5, many(5, 63)...)
	d := load(t, a.image())
	for range 25 {
		w := &world{d: d, l: recovered(t, d, a.where), a: a}
		a.made = d.Made()
		w.agree(t)
		w.sound(t)
		safe := maps.Clone(a.now)
		for range 1 + draw.Intn(60) {
			commits := w.l.Commits()
			inum := []int{1, 4, 5}[draw.Intn(3)]
			w.do(t, drawn(draw, w.a, inum))
			if w.l.Commits() != commits { // all is committed, so that one knows how much is
				w.do(t, syncing())
				safe = maps.Clone(a.now)
			}
		}
		for _, inum := range []int{1, 4, 5} {
			w.do(t, asking(inum), finding(inum, "m3"), finding(inum, "m30"))
		}
		w.agree(t)
		w.sound(t)
		ok(t, d.Crash(nil))
		refusesAll(t, w.l, 4, api.ErrDead)
		a = &account{where: a.where, now: safe}
	}
}
