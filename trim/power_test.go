package trim_test

import (
	"maps"
	"math/rand"
	"testing"

	"undercroft/api"
	"undercroft/disk"
	"undercroft/trim"
	"undercroft/wal"
)

// recovered is a new log of a disk whose power has gone.
func recovered(t testing.TB, d *disk.Disk, where api.Layout) *wal.Log {
	t.Helper()
	if _, err := wal.Recover(d, where); err != api.OK {
		t.Fatalf("Recover: %d", err)
	}
	return newLog(t, d, where)
}

// choices are some lists of what is kept of n pending writes: none, all, each alone, every second one.
func choices(n int) [][]bool {
	list := func(is func(i int) bool) []bool {
		keep := make([]bool, n)
		for i := range keep {
			keep[i] = is(i)
		}
		return keep
	}
	out := [][]bool{list(func(int) bool { return false })}
	if n == 0 {
		return out
	}
	out = append(out, list(func(int) bool { return true }), list(func(i int) bool { return i%2 == 0 }), list(func(i int) bool { return i%2 == 1 }))
	for one := range n {
		out = append(out, list(func(i int) bool { return i == one }))
	}
	return out
}

// shortened are the accounts of a disk behind none, one and more of the steps of a Cut.
func shortened(begin *account, inum, size int) []*account {
	a := begin.copied()
	out := []*account{a.copied()}
	for len(a.behind(inum, size)) > 0 {
		a.trim(inum, size)
		out = append(out, a.copied())
	}
	if int(a.node(inum).Size) > size {
		a.size(inum, size)
		out = append(out, a.copied())
	}
	return out
}

// like is which of some accounts a log's disk is like; -1: none.
func like(l *wal.Log, some []*account) int {
next:
	for i, a := range some {
		for at, want := range a.now {
			if at >= a.where.Geometry.Blocks {
				continue
			}
			if b, err := l.Read(at); b != want || err != api.OK {
				continue next
			}
		}
		return i
	}
	return -1
}

// many is a disk with a file of ten groups and more, about all index blocks.
func many(t testing.TB, log int) *account {
	t.Helper()
	var l []int
	for i := range 30 {
		l = append(l, i)
	}
	return made(t, layout(t, 160, log, 16)).own(2, append(l, 100, 200, 264, 265, 266, 267, 300, 521, 522, 600)...).ends(2, 615000).own(3, 3, 12)
}

// spread is a disk with a file of two blocks below each of thirty index blocks: each step but every second one has another block to write, so that a Cut of it takes more than one commit.
func spread(t testing.TB) *account {
	t.Helper()
	var l []int
	for k := range 30 {
		l = append(l, 266+256*k+10, 266+256*k+100)
	}
	return made(t, layout(t, 160, 32, 16)).own(2, l...)
}

// stoppedCut is a Cut of inode 2 on a disk on which others have changed some blocks in the same group, and that stops; the disk's power has not gone yet.
func stoppedCut(t testing.TB, begin *account, size, ahead, fuse int) *world {
	w := newWorld(t, begin)
	w.do(t, changed(ahead))
	w.d.Fuse(fuse)
	if err := trim.Cut(w.l, 2, size); err != api.ErrDead || w.d.Made() != fuse {
		t.Fatalf("%d blocks ahead, a fuse of %d: %d, %d things", ahead, fuse, err, w.d.Made())
	}
	refusesAll(t, w.l, 2, 0, api.ErrDead)
	refusesAll(t, w.l, 0, -1, api.ErrDead)
	return w
}

// changed is a step of others that changes some free blocks.
func changed(n int) act {
	var l []act
	for i := range n {
		l = append(l, changing(50+i, mark(7*i)))
	}
	return step(31, l...)
}

// The power going at each write and barrier of a Cut, which commits now ahead of this step, now ahead of that one: it is ErrDead, as is all that is asked of the log then; the disk is as it was behind some of the steps, none of them in part; the file is sound, and one goes on from there.
func TestStoppedCut(t *testing.T) {
	for _, x := range []struct {
		begin                *account
		size, steps, commits int
		ahead, kept          int // of the ways in which the pending writes are kept, so many are tried
	}{
		{many(t, 32), 5, 11, 1, 12, 99},
		{many(t, 32), 5, 11, 1, 13, 5},
		{many(t, 32), 5, 11, 1, 14, 5},
		{many(t, 32), 5, 11, 1, 15, 5},
		{many(t, 32), 5, 11, 1, 17, 5},
		{many(t, 32), 250 * 1024, 5, 1, 14, 5},
		{many(t, 40), 5, 11, 1, 22, 5},
		{spread(t), 0, 61, 2, 0, 4},
	} {
		begin := x.begin
		whole := newWorld(t, begin)
		whole.do(t, changed(x.ahead))
		some := append([]*account{begin}, shortened(whole.a, 2, x.size)...)
		whole.do(t, cutting(2, x.size))
		if whole.a.commits != x.commits || len(some) != x.steps+2 {
			t.Fatalf("%d commits, %d steps", whole.a.commits, len(some)-2)
		}
		found := map[int]bool{}
		for fuse := range whole.a.made {
			ways := choices(len(stoppedCut(t, begin, x.size, x.ahead, fuse).d.Pending()))
			for _, keep := range ways[:min(len(ways), x.kept)] {
				w := stoppedCut(t, begin, x.size, x.ahead, fuse)
				ok(t, w.d.Crash(keep))
				w.l = recovered(t, w.d, begin.where)
				k := like(w.l, some)
				if k < 0 {
					t.Fatalf("a fuse of %d: the disk is as it was behind no step", fuse)
				}
				found[k] = true
				w.a = some[k].copied()
				w.a.made, w.count = w.d.Made(), 0
				w.sound(t)
				w.do(t, cutting(2, x.size))
				w.agree(t)
				w.sound(t)
			}
		}
		if !found[0] || len(found) != whole.a.commits+1 || found[x.steps+1] {
			t.Errorf("%d blocks ahead: %d commits; behind these steps: %v", x.ahead, whole.a.commits, found)
		}
	}
}

// The power going between two steps of a Cut: with a sync all of them are there, without one none is; the file is sound, and a Cut does the rest.
func TestBetweenSteps(t *testing.T) {
	begin := many(t, 32)
	some := shortened(begin, 2, 5)
	for n := range len(some) - 1 { // the last one is that of the size
		for _, sync := range []bool{true, false} {
			w := newWorld(t, begin)
			for range n {
				w.do(t, stepping(2, 5))
			}
			want := 0
			if sync {
				w.do(t, syncing())
				want = n
			}
			ok(t, w.d.Crash(nil))
			w.l = recovered(t, w.d, begin.where)
			if k := like(w.l, some); k != want {
				t.Fatalf("%d steps, synced: %t: the disk is as it was behind step %d", n, sync, k)
			}
			w.a = some[want].copied()
			w.a.made = w.d.Made()
			w.sound(t)
			w.do(t, cutting(2, 5))
			w.sound(t)
			if like(w.l, some) != len(some)-1 {
				t.Fatalf("%d steps, synced: %t: the rest was not done", n, sync)
			}
		}
	}
}

// What a call has answered is in the group that the next sync commits, and is not ahead of that.
func TestAnswered(t *testing.T) {
	begin := made(t, snug(t)).own(2, 0, 1, 9).ends(2, 9300)
	for name, x := range map[string]struct {
		call func(w *world)
		want func(a *account)
	}{
		"Step": {func(w *world) { w.do(t, stepping(2, 500)) }, func(a *account) { a.trim(2, 500) }},
		"Cut":  {func(w *world) { w.do(t, cutting(2, 500)) }, func(a *account) { a.cut(2, 500) }},
		"Size": {func(w *world) { w.do(t, sizing(2, 9250)) }, func(a *account) { a.size(2, 9250) }},
	} {
		behind := begin.copied()
		x.want(behind)
		some := []*account{begin, behind}
		for _, sync := range []bool{false, true} {
			w := newWorld(t, begin)
			x.call(w)
			if sync {
				w.do(t, syncing())
			}
			ok(t, w.d.Crash(nil))
			refusesAll(t, w.l, 2, 0, api.ErrDead)
			w.l = recovered(t, w.d, begin.where)
			if k := like(w.l, some); (k == 1) != sync || k < 0 {
				t.Errorf("%s, synced: %t: the disk is as the account %d", name, sync, k)
			}
		}
	}
}

// A step that commits nothing carries out no write and no barrier: no fuse stops the disk in it.
func TestFuse(t *testing.T) {
	begin := made(t, ten(t)).own(2, 0, 12).ends(2, 13000)
	for fuse := range 3 {
		for name, call := range map[string]act{"Step": stepping(2, 0), "Cut": cutting(2, 700), "Size": sizing(2, 12900)} {
			w := newWorld(t, begin)
			w.d.Fuse(fuse)
			w.do(t, call)
			for range fuse {
				ok(t, w.d.Barrier())
			}
			if w.d.Barrier() != api.ErrDead {
				t.Fatalf("%s, a fuse of %d: the call has put it off", name, fuse)
			}
			refusesAll(t, w.l, 2, 0, api.ErrDead)
			ok(t, w.d.Crash(nil))
			if like(recovered(t, w.d, begin.where), []*account{begin}) != 0 {
				t.Fatalf("%s, a fuse of %d: the disk has changed", name, fuse)
			}
		}
	}
}

// A step whose beginning commits what is ahead of it: the disk stops in that, the answer is ErrDead and no more, and there is nothing of the step.
func TestStoppedStep(t *testing.T) {
	begin := made(t, snug(t)).own(2, 0, 8, 16).ends(2, 17000)
	const ahead = 30 // blocks that others have changed: a step of 2 has them committed
	behind := begin.copied()
	for i := range ahead {
		behind.now[50+i] = mark(7 * i)
	}
	for name, call := range map[string]func(w *world) api.Errno{
		"Step": func(w *world) api.Errno {
			more, err := trim.Step(w.l, 2, 0)
			if more && err != api.OK {
				t.Fatalf("there is more, beside %d", err)
			}
			return err
		},
		"Cut":         func(w *world) api.Errno { return trim.Cut(w.l, 2, 0) },
		"Cut by Size": func(w *world) api.Errno { return trim.Cut(w.l, 2, 16500) },
		"Size":        func(w *world) api.Errno { return trim.Size(w.l, 2, 16500) },
	} {
		for fuse := range 2*ahead + 7 {
			w := newWorld(t, begin)
			w.do(t, changed(ahead))
			w.d.Fuse(fuse)
			if err := call(w); (err == api.ErrDead) != (fuse < 2*ahead+6) {
				t.Fatalf("%s, a fuse of %d: %d", name, fuse, err)
			}
			if fuse == 2*ahead+6 {
				continue
			}
			refusesAll(t, w.l, 2, 0, api.ErrDead)
			ok(t, w.d.Crash(nil))
			k := like(recovered(t, w.d, begin.where), []*account{begin, behind})
			if held := fuse >= ahead+3; k < 0 || held != (k == 1) { // the header's barrier
				t.Fatalf("%s, a fuse of %d: the disk is as the account %d", name, fuse, k)
			}
		}
	}
}

// Many lives of one disk, drawn anew the same way each time: what is found is the files as they were behind the last commit, and they are sound.
func TestManyLives(t *testing.T) {
	draw := rand.New(rand.NewSource(16))
	a := made(t, layout(t, 1500, 48, 20))
	a.has(4, api.Node{Kind: api.KindFile, Links: 1})
	a.has(5, api.Node{Kind: api.KindDir}) // an orphan, which Step alone trims
	a.own(5, 0, 1, 2, 3, 4, 5, 6, 7, 8, 9, 10, 11)
	d := load(t, a.image())
	for range 40 {
		w := &world{d: d, l: recovered(t, d, a.where), a: a}
		a.made = d.Made()
		w.agree(t)
		w.sound(t)
		safe := maps.Clone(a.now)
		for range 1 + draw.Intn(30) {
			commits := w.l.Commits()
			w.do(t, drawn(draw, a))
			if w.l.Commits() != commits { // ahead of the act or in the middle of it: all of it is committed, so that one knows how much is
				w.do(t, syncing())
				safe = maps.Clone(a.now)
			}
		}
		w.agree(t)
		w.sound(t)
		for inum := 2; inum <= 4; inum++ {
			w.reads(t, inum, 0, a.read(inum, 0, 60000))
			w.reads(t, inum, 255*1024, a.read(inum, 255*1024, 60000))
		}
		ok(t, d.Crash(nil))
		refusesAll(t, w.l, 2, 0, api.ErrDead)
		a = &account{where: a.where, now: safe}
	}
}

// drawn is a call on one of the files, a write of one, or now and then a sync.
func drawn(draw *rand.Rand, a *account) act {
	place := []int{draw.Intn(30000), draw.Intn(300 * 1024), 255*1024 + draw.Intn(20*1024), draw.Intn(api.MaxFile - 20000), draw.Intn(40) * 8192}[draw.Intn(5)]
	inum := 2 + draw.Intn(3)
	switch draw.Intn(10) {
	case 0:
		return syncing()
	case 1, 2:
		return cutting(inum, place)
	case 3:
		return stepping(inum, place)
	case 4:
		return stepping(5, place/5)
	case 5:
		return sizing(inum, place)
	case 6: // within the last block
		size := int(a.node(inum).Size)
		return sizing(inum, max(0, size-draw.Intn(1000)))
	}
	return writing(inum, place, sown(draw.Intn(1000), 1+draw.Intn(9000)))
}
