package orphan_test

import (
	"maps"
	"math/rand"
	"testing"

	"undercroft/api"
	"undercroft/disk"
	"undercroft/orphan"
	"undercroft/wal"
)

// recovered is a new log of a disk whose power has gone.
func recovered(t testing.TB, d *disk.Disk, where api.Layout) *wal.Log {
	t.Helper()
	if _, err := wal.Recover(d, where); err != api.OK {
		t.Fatalf("Recover: %d", err)
	}
	return newLog(t, d, where)
}

// choices are some lists of what is kept of n pending writes: none, all, every second one, each alone.
func choices(n int) [][]bool {
	list := func(is func(i int) bool) []bool {
		keep := make([]bool, n)
		for i := range keep {
			keep[i] = is(i)
		}
		return keep
	}
	out := [][]bool{list(func(int) bool { return false })}
	if n == 0 {
		return out
	}
	out = append(out, list(func(int) bool { return true }), list(func(i int) bool { return i%2 == 0 }), list(func(i int) bool { return i%2 == 1 }))
	for one := range n {
		out = append(out, list(func(i int) bool { return i == one }))
	}
	return out
}

// like is which of some accounts a log's disk is like; -1: none.
func like(l *wal.Log, some []*account) int {
next:
	for i, a := range some {
		for at, want := range a.now {
			if at >= a.where.Geometry.Blocks {
				continue
			}
			if b, err := l.Read(at); b != want || err != api.OK {
				continue next
			}
		}
		return i
	}
	return -1
}

// few is a disk with some orphans, of few blocks and of many.
func few(t testing.TB, log int) *account {
	t.Helper()
	return made(t, layout(t, 130+log, log, 40)).lost(4, api.KindFile, 0, 1, 8, 97).lost(5, api.KindDir, 0, 11).lost(16, api.KindFile).lost(17, api.KindFile, 264, 265, 266, 600, 601, 65801).lost(39, api.KindDir, 9)
}

// crowd is a disk with an orphan in each of many blocks of inodes: All of it takes several commits.
func crowd(t testing.TB) *account {
	t.Helper()
	a := made(t, layout(t, 200, 32, 800))
	for inum := 20; inum <= 800; inum += 16 {
		a.lost(inum, api.KindFile)
		if inum%5 == 0 {
			a.own(inum, 3)
		}
	}
	return a
}

// spread is a disk with an orphan of two blocks below each of twenty index blocks: each second step has another block to write, so that it takes several commits.
func spread(t testing.TB) *account {
	t.Helper()
	var l []int
	for k := range 20 {
		l = append(l, 266+256*k+10, 266+256*k+100)
	}
	return made(t, layout(t, 200, 32, 16)).lost(4, api.KindFile, l...)
}

// call is Reclaim or All, whose number is left away.
type call func(l *wal.Log) api.Errno

func callReclaim(l *wal.Log) api.Errno { return orphan.Reclaim(l, 4) }

func callAll(l *wal.Log) api.Errno {
	n, err := orphan.All(l)
	if n != 0 && err != api.OK {
		return -1
	}
	return err
}

// stopped is a call on a disk on which others have changed some blocks in the same group, and that stops; the disk's power has not gone yet.
func stopped(t testing.TB, begin *account, do call, ahead, fuse int) *world {
	t.Helper()
	w := newWorld(t, begin)
	w.do(t, changed(ahead))
	w.d.Fuse(fuse)
	if err := do(w.l); err != api.ErrDead || w.d.Made() != fuse {
		t.Fatalf("%d blocks ahead, a fuse of %d: %d, %d things", ahead, fuse, err, w.d.Made())
	}
	refusesAll(t, w.l, api.ErrDead)
	return w
}

// P22.4, rule 7: the power going at each write and barrier of Reclaim and of All, whichever of the writes that are pending are kept: the call is ErrDead, as is all that is asked of the log then; the disk is as it was behind some of the steps, none of them in part; and All does the rest.
func TestStopped(t *testing.T) {
	for name, x := range map[string]struct {
		begin   *account
		do      call
		ahead   int
		commits int
		kept    int // of the ways in which the pending writes are kept, so many are tried
	}{
		"All, few, 14":     {few(t, 32), callAll, 14, 1, 99},
		"All, few, 15":     {few(t, 32), callAll, 15, 1, 5},
		"All, few, 31":     {few(t, 33), callAll, 31, 1, 5},
		"All, crowd":       {crowd(t), callAll, 0, 2, 3},
		"All, crowd, 7":    {crowd(t), callAll, 7, 2, 3},
		"All, spread":      {spread(t), callAll, 0, 1, 3},
		"Reclaim, few, 15": {few(t, 32), callReclaim, 15, 1, 99},
		"Reclaim, few, 17": {few(t, 32), callReclaim, 17, 1, 5},
		"Reclaim, spread":  {spread(t), callReclaim, 3, 1, 3},
	} {
		whole := newWorld(t, x.begin)
		whole.do(t, changed(x.ahead))
		some := append([]*account{x.begin}, whole.a.stages()...)
		ok(t, x.do(whole.l))
		if whole.l.Commits() != x.commits {
			t.Errorf("%s: %d commits", name, whole.l.Commits())
		}
		found := map[int]bool{}
		for fuse := range whole.d.Made() {
			ways := choices(len(stopped(t, x.begin, x.do, x.ahead, fuse).d.Pending()))
			for _, keep := range ways[:min(len(ways), x.kept)] {
				w := stopped(t, x.begin, x.do, x.ahead, fuse)
				ok(t, w.d.Crash(keep))
				w.l = recovered(t, w.d, x.begin.where)
				k := like(w.l, some)
				if k < 0 {
					t.Fatalf("%s, a fuse of %d: the disk is as it was behind no step", name, fuse)
				}
				found[k] = true
				w.goOn(t, some[k])
			}
		}
		if !found[0] || len(found) != x.commits+1 {
			t.Errorf("%s: %d commits; behind these steps: %v", name, x.commits, found)
		}
	}
}

// goOn has All do the rest on a disk that was recovered, from what an account says.
func (w *world) goOn(t testing.TB, from *account) {
	t.Helper()
	w.a, w.count = from.copied(), 0
	w.a.made = w.d.Made()
	w.sound(t)
	w.do(t, all(), all())
	w.agree(t)
	w.sound(t)
	if l := w.a.orphans(); len(l) > 0 {
		t.Fatalf("All has left %v", l)
	}
}

// P22.4: the power going between two steps: with a sync all of them are there, without one none is; and All does the rest.
func TestBetweenSteps(t *testing.T) {
	begin := few(t, 64)
	some := begin.stages()
	for n := range some {
		for _, sync := range []bool{true, false} {
			w := newWorld(t, begin)
			for range n {
				w.next(t)
			}
			want := 0
			if sync {
				w.do(t, syncing())
				want = n
			}
			if w.l.Commits() > 1 || w.l.Commits() == 1 && !sync {
				t.Fatalf("%d commits", w.l.Commits())
			}
			ok(t, w.d.Crash(nil))
			w.l = recovered(t, w.d, begin.where)
			if k := like(w.l, some); k != want {
				t.Fatalf("%d steps, synced: %t: the disk is as it was behind step %d", n, sync, k)
			}
			w.goOn(t, some[want])
			if like(w.l, some) != len(some)-1 {
				t.Fatalf("%d steps, synced: %t: the rest was not done", n, sync)
			}
		}
	}
}

// The power going again and again, at any place of All and of the sync behind it: it comes to an end, and that is the same.
func TestAgainAndAgain(t *testing.T) {
	r := rand.New(rand.NewSource(22))
	begins := []*account{few(t, 32), crowd(t), spread(t)}
	for round := range 150 {
		begin := begins[round%3]
		some := begin.stages()
		d := load(t, begin.image())
		l := newLog(t, d, begin.where)
		last := 0
		for range 6 {
			d.Fuse(d.Made() + r.Intn(60))
			orphan.All(l)
			l.Sync()
			keep := make([]bool, len(d.Pending()))
			for i := range keep {
				keep[i] = r.Intn(2) == 0
			}
			ok(t, d.Crash(keep))
			l = recovered(t, d, begin.where)
			k := like(l, some)
			if k < last {
				t.Fatalf("the disk is as it was behind step %d, and was as behind %d", k, last)
			}
			last = k
		}
		w := &world{d: d, l: l}
		w.goOn(t, some[last])
		w.do(t, syncing())
		if like(w.l, some) != len(some)-1 {
			t.Fatalf("behind it the disk is as it was behind step %d", like(w.l, some))
		}
	}
}

// What a call has answered is in the group that the next sync commits, and is not ahead of that.
func TestAnswered(t *testing.T) {
	begin := few(t, 128)
	for name, x := range map[string]struct{ do, want act }{
		"Reclaim": {do: reclaiming(17)},
		"All":     {do: all()},
	} {
		for _, sync := range []bool{false, true} {
			w := newWorld(t, begin)
			w.do(t, x.do)
			some := []*account{begin, w.a.copied()}
			if sync {
				w.do(t, syncing())
			}
			ok(t, w.d.Crash(nil))
			refusesAll(t, w.l, api.ErrDead)
			w.l = recovered(t, w.d, begin.where)
			if k := like(w.l, some); (k == 1) != sync || k < 0 {
				t.Errorf("%s, synced: %t: the disk is as the account %d", name, sync, k)
			}
		}
	}
}

// A call that commits nothing carries out no write and no barrier: no fuse stops the disk in it.
func TestFuse(t *testing.T) {
	begin := few(t, 128)
	for fuse := range 3 {
		for name, do := range map[string]act{"Reclaim": reclaiming(4), "All": all(), "refused": reclaiming(1)} {
			w := newWorld(t, begin)
			w.d.Fuse(fuse)
			w.do(t, do)
			for range fuse {
				ok(t, w.d.Barrier())
			}
			if w.d.Barrier() != api.ErrDead {
				t.Fatalf("%s, a fuse of %d: the call has put it off", name, fuse)
			}
			refusesAll(t, w.l, api.ErrDead)
			ok(t, w.d.Crash(nil))
			if like(recovered(t, w.d, begin.where), []*account{begin}) != 0 {
				t.Fatalf("%s, a fuse of %d: the disk has changed", name, fuse)
			}
		}
	}
}

// A StepFree whose beginning commits what is ahead of it: the disk stops in that, the answer is ErrDead and no more, and nothing of the step is there.
func TestStoppedFree(t *testing.T) {
	begin := made(t, snug(t)).lost(4, api.KindFile).lost(6, api.KindDir)
	for name, do := range map[string]call{"Reclaim": callReclaim, "All": callAll} {
		whole := newWorld(t, begin)
		whole.do(t, changed(31))
		some := append([]*account{begin}, whole.a.stages()...)
		ok(t, do(whole.l))
		if whole.l.Commits() != 1 || whole.d.Made() != 2*31+6 {
			t.Fatalf("%s: %d commits, %d things", name, whole.l.Commits(), whole.d.Made())
		}
		for fuse := range whole.d.Made() {
			for _, keep := range choices(len(stopped(t, begin, do, 31, fuse).d.Pending())) {
				w := stopped(t, begin, do, 31, fuse)
				ok(t, w.d.Crash(keep))
				w.l = recovered(t, w.d, begin.where)
				if k := like(w.l, some); k != 0 && k != 1 {
					t.Fatalf("%s, a fuse of %d: the disk is as the account %d", name, fuse, k)
				}
			}
		}
	}
}

// A log that is made anew, without recovery, of a disk that was synced: All goes on there.
func TestNewLog(t *testing.T) {
	begin := few(t, 32)
	w := newWorld(t, begin)
	w.do(t, reclaiming(17), syncing())
	was := maps.Clone(w.a.now)
	ok(t, w.d.Crash(nil))
	w.l = newLog(t, w.d, begin.where)
	w.goOn(t, &account{where: begin.where, now: was})
}
