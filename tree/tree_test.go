package tree_test

import (
	"math"
	"slices"
	"strings"
	"testing"

	"undercroft/api"
	"undercroft/disk"
	"undercroft/files"
	"undercroft/mkfs"
	"undercroft/mount"
	"undercroft/tree"
)

// odd are numbers of which many are outside of whatever is asked for.
var odd = []int{math.MinInt, -1, 0, 1, 15, 16, 65537, api.MaxFile + 1, math.MaxInt}

// everything are calls of every kind, and of kinds that there are not, with arguments that may be and that may not.
func everything() []api.Call {
	var out []api.Call
	paths := []string{"", "/", "/a", "a", "/x/y", "/.", "/d", strings.Repeat("/", 1025), "/fifteen letters"}
	for kind := range 256 {
		for i, n := range odd {
			k := odd[(i+kind)%len(odd)]
			out = append(out, api.Call{Kind: api.CallKind(kind), Path: paths[i], Other: paths[(i+kind)%len(paths)], Desc: n, Size: k, Flags: n, Bytes: make([]byte, min(max(0, k), 65537))})
			out = append(out, api.Call{Kind: api.CallKind(kind), Path: "/a", Other: "/new", Flags: rw})
		}
	}
	return out
}

// refuses asks whether all calls of a system are answered by one error, and nothing else.
func refuses(t testing.TB, s *tree.System, want api.Errno) {
	t.Helper()
	for _, c := range everything() {
		if got := s.Do(c); !like(got, wrong(want)) {
			t.Fatalf("%+v: %+v, not %d", shortCall(c), short(got), want)
		}
	}
	if got := s.Unmount(); got != want {
		t.Fatalf("Unmount: %d, not %d", got, want)
	}
}

// watched is all that a disk tells of itself, but how often it was read.
type watched struct {
	made    int
	stopped bool
	pending []int
	history []api.Op
	image   api.Image
}

func watch(d *disk.Disk) watched {
	return watched{d.Made(), d.Stopped(), d.Pending(), d.History(), d.Image()}
}

func (a watched) like(b watched) bool {
	return a.made == b.made && a.stopped == b.stopped && slices.Equal(a.pending, b.pending) && slices.Equal(a.history, b.history) && a.image.Blocks == b.image.Blocks && slices.Equal(a.image.Data, b.image.Data)
}

// stopped is a disk that has stopped, and holds an image.
func stopped(t testing.TB, im api.Image) *disk.Disk {
	t.Helper()
	d := load(t, im)
	d.Fuse(0)
	if d.Barrier() != api.ErrDead {
		t.Fatal("it goes on")
	}
	return d
}

// with is an image in which a block is another one.
func with(im api.Image, at int, b api.Block) api.Image {
	out := api.Image{Blocks: im.Blocks}
	i, found := slices.BinarySearchFunc(im.Data, at, func(h api.Held, at int) int { return h.Index - at })
	out.Data = append(out.Data, im.Data[:i]...)
	if b != (api.Block{}) {
		out.Data = append(out.Data, api.Held{Index: at, Data: b})
	}
	if found {
		i++
	}
	out.Data = append(out.Data, im.Data[i:]...)
	return out
}

func blockOf(im api.Image, at int) api.Block {
	for _, h := range im.Data {
		if h.Index == at {
			return h.Data
		}
	}
	return api.Block{}
}

// numbers is a block of such numbers of four bytes.
func numbers(l ...int) api.Block {
	var b api.Block
	for i, n := range l {
		put(b[4*i:], 4, n)
	}
	return b
}

// P27.1: a disk of which mounting says that it is none, that it has stopped, or that it holds no file system: the same error, no system, and nothing is done to it.
func TestOpenRefused(t *testing.T) {
	im := town(t, small()).image(t)
	super := blockOf(im, 0)
	other := func(at, n int) api.Image {
		b := super
		put(b[at:], 4, n)
		return with(im, 0, b)
	}
	rows := map[string]struct {
		d    *disk.Disk
		want api.Errno
	}{
		"nil":                         {nil, api.ErrNil},
		"that disk did not make":      {&disk.Disk{}, api.ErrNil},
		"stopped":                     {stopped(t, im), api.ErrDead},
		"stopped, of noughts":         {stopped(t, api.Image{Blocks: 400}), api.ErrDead},
		"of noughts":                  {load(t, api.Image{Blocks: 400}), api.ErrInval},
		"of one block":                {load(t, api.Image{Blocks: 1}), api.ErrInval},
		"no superblock":               {load(t, with(im, 0, api.Block{})), api.ErrInval},
		"a superblock of other bytes": {load(t, with(im, 0, mark(3))), api.ErrInval},
		"no name in the superblock":   {load(t, other(0, 7)), api.ErrInval},
		"a log that is too small":     {load(t, other(12, 31)), api.ErrInval},
		"too many inodes":             {load(t, other(16, 65536)), api.ErrInval},
		"more blocks than the disk":   {load(t, other(8, 403)), api.ErrInval},
		"too many blocks in the log":  {load(t, with(im, 1, numbers(32))), api.ErrInval},
		"the superblock in the log":   {load(t, with(im, 1, numbers(1, 0))), api.ErrInval},
		"a log block in the log":      {load(t, with(im, 1, numbers(1, 32))), api.ErrInval},
		"a block twice in the log":    {load(t, with(im, 1, numbers(2, 40, 40))), api.ErrInval},
		"a block behind the disk's":   {load(t, with(im, 1, numbers(1, 400))), api.ErrInval},
	}
	for name, row := range rows {
		was := watch(row.d)
		s, err := tree.Open(row.d)
		_, err2 := mount.Mount(row.d)
		if s != nil || err != row.want || err2 != row.want {
			t.Errorf("%s: %v, %d, and Mount %d, not %d", name, s, err, err2, row.want)
		}
		if !was.like(watch(row.d)) {
			t.Errorf("%s: something was done", name)
		}
	}
}

// P27.1: a system that is opened where there is one already: the disk is the new one's. What is refused leaves the old one as it was.
func TestOpenTwice(t *testing.T) {
	x := newWorld(t, town(t, small()))
	x.fine(t, opening("/a", rw), writing(0, sown(1, 5000)), syncing(), making("/lost"))
	s := x.s
	y := &world{d: x.d}
	y.open(t, look(t, x.d.Image(), small()))
	refuses(t, s, api.ErrDead)
	y.sees(t) // no descriptor is open, and nothing held
	y.refused(t, api.ErrNoEnt, stating("/lost"))
	y.fine(t, stating("/a"), making("/new"))
	y.whole(t)
	// A header that may not be: nobody takes the disk over.
	header := numbers(1, 0)
	ok(t, x.d.Write(1, header))
	if s, err := tree.Open(x.d); s != nil || err != api.ErrInval {
		t.Fatalf("%v, %d", s, err)
	}
	ok(t, x.d.Write(1, api.Block{}), x.d.Barrier())
	if got := y.s.Do(stating("/new")); got.Err != api.OK || got.Stat.Inum != 12 {
		t.Errorf("%+v", short(got))
	}
}

// P27.1: a group that is to be put in place, and orphans: both are done with when the system is there, and none is left open or held.
func TestOpenRecovers(t *testing.T) {
	a := town(t, small())
	x := newWorld(t, a)
	x.fine(t, opening("/b", rw), opening("/d/e", rd), opening("/c", rw), unlinking("/b"), unlinking("/c"), syncing(), making("/last"))
	want := x.a.again()
	x.d.Fuse(len(x.a.group) + 3) // the disk stops behind the barrier that makes the group valid
	if got := x.s.Do(syncing()); !like(got, wrong(api.ErrDead)) {
		t.Fatalf("%+v", short(got))
	}
	ok(t, x.d.Crash(nil))
	im := x.d.Image()
	for k := 0; ; k++ {
		d := load(t, im)
		d.Fuse(k)
		s, err := tree.Open(d)
		if err == api.OK {
			if k < 12 || s == nil || d.Made() != k {
				t.Errorf("it was opened with %d things", d.Made())
			}
			break
		}
		if s != nil || err != api.ErrDead || d.Made() != k {
			t.Fatalf("a fuse of %d: %v, %d", k, s, err)
		}
		ok(t, d.Crash(nil))
		y := &world{d: d}
		y.open(t, want.again())
		y.sees(t)
		y.fine(t, stating("/last"), opening("/d/e", rd), opening("/a", rw), writing(1, sown(1, 9000)))
		y.refused(t, api.ErrNoEnt, stating("/b"), opening("/c", rd))
		y.whole(t)
	}
}

// P27.1, P27.5: a system has no descriptor open, and one volume, the same each time, which another system does not share.
func TestOpen(t *testing.T) {
	x, y := newWorld(t, town(t, small())), newWorld(t, town(t, small()))
	if x.d.Made() != 0 {
		t.Errorf("%d things were done to a disk that was unmounted", x.d.Made())
	}
	x.sees(t)
	v := x.s.Volume()
	if v == nil || v.Log() == nil || v == y.s.Volume() {
		t.Fatal("no volume of its own")
	}
	x.fine(t, opening("/a", rw), making("/new"))
	if x.s.Volume() != v || v.Desk().Len() != 1 || v.Log().Steps() != 1 {
		t.Error("the volume is another one")
	}
	y.sees(t)
	y.refused(t, api.ErrNoEnt, stating("/new"))
}

// Rule 4, P27.2, P27.4, P27.5: systems that are nil, that Open did not make, copies of such as it made; what they are copies of stays as it is.
func TestNone(t *testing.T) {
	x := newWorld(t, town(t, small()))
	x.fine(t, opening("/a", rw), writing(0, sown(1, 20000)), opening("/d", rd))
	was := watch(x.d)
	other := *x.s
	failed, _ := tree.Open(nil)
	for i, s := range []*tree.System{nil, {}, &other, {Files: x.s.Files}, {Files: files.New(x.s.Volume())}, failed} {
		refuses(t, s, api.ErrNil)
		if s.Volume() != nil {
			t.Errorf("system %d has a volume", i)
		}
	}
	if !was.like(watch(x.d)) {
		t.Error("something was done to the disk")
	}
	x.sees(t)
	x.stands(t)
	x.unmounts(t)
	refuses(t, &other, api.ErrNil)
	ok(t, x.d.Crash(nil))
	refuses(t, &other, api.ErrNil)
}

// P27.2, P27.4, P27.5: a system that is unmounted: ErrNil, also when the disk has stopped or is somebody else's; its volume is told.
func TestUnmounted(t *testing.T) {
	for _, open := range []int{0, 1, 16} {
		x := newWorld(t, town(t, small()))
		for range open {
			x.fine(t, opening("/d/f", rw))
		}
		s, v := x.s, x.s.Volume()
		x.unmounts(t)
		gone := func() {
			t.Helper()
			was := watch(x.d)
			refuses(t, s, api.ErrNil)
			if s.Volume() != v || v.Sync() != api.ErrNil || v.Log() != nil || v.Desk() != nil {
				t.Error("it has another volume, or one that is not closed")
			}
			if _, err := s.Stat(0); err != api.ErrNil {
				t.Errorf("its files: %d", err)
			}
			if !was.like(watch(x.d)) {
				t.Error("something was done to the disk")
			}
		}
		gone()
		x.open(t, x.a.again())
		gone()
		x.fine(t, opening("/a", rw), stating("/d"))
		x.d.Fuse(0)
		x.d.Barrier()
		gone()
		refuses(t, x.s, api.ErrDead)
		ok(t, x.d.Crash(nil))
		gone()
	}
}

// P27.2, P27.4, rule 7: a disk that has stopped, or whose claim is over, in each way: ErrDead, ahead of all but ErrNil; the volume is told still.
func TestDead(t *testing.T) {
	ways := map[string]func(d *disk.Disk){
		"stopped at a write":   func(d *disk.Disk) { d.Fuse(0); d.Write(50, api.Block{}) },
		"stopped at a barrier": func(d *disk.Disk) { d.Fuse(0); d.Barrier() },
		"power":                func(d *disk.Disk) { d.Crash(nil) },
		"claimed":              func(d *disk.Disk) { d.Claim() },
		"mounted":              func(d *disk.Disk) { mount.Mount(d) },
		"made anew":            func(d *disk.Disk) { mkfs.Make(d, small()) },
	}
	for name, way := range ways {
		for _, open := range []int{0, 3, 16} {
			x := newWorld(t, town(t, small()))
			for i := range open {
				x.fine(t, opening([]string{"/a", "/b", "/c"}[i%3], rw))
			}
			x.fine(t, making("/pending"))
			v := x.s.Volume()
			way(x.d)
			was := watch(x.d)
			refuses(t, x.s, api.ErrDead)
			refuses(t, x.s, api.ErrDead)
			if x.s.Volume() != v || v.Sync() != api.ErrDead {
				t.Errorf("%s: another volume", name)
			}
			if !was.like(watch(x.d)) {
				t.Errorf("%s: something was done to the disk", name)
			}
		}
	}
}

// P27.2: a kind that there is not: ErrArg, whatever the fields say, and nothing is done.
func TestKinds(t *testing.T) {
	x := newWorld(t, town(t, small()))
	x.fine(t, opening("/a", rw), making("/new"))
	kinds := 0
	for _, c := range everything() {
		if c.Kind < api.CallOpen || c.Kind > api.CallSync {
			x.count++
			if got := x.s.Do(c); !like(got, wrong(api.ErrArg)) {
				t.Fatalf("%+v: %+v", shortCall(c), short(got))
			}
			kinds++
		}
	}
	if kinds < 242*2 {
		t.Errorf("%d calls", kinds)
	}
	x.spends(t, api.Call{})
	x.sees(t)
	x.stands(t)
}

// P27.2: the fields that a kind does not use count for nothing.
func TestOtherFields(t *testing.T) {
	filled := func(c api.Call) api.Call {
		switch c.Kind {
		case api.CallOpen:
			c.Other, c.Desc, c.Size, c.Bytes = "x", -9, math.MinInt, make([]byte, 65537)
		case api.CallRead, api.CallTruncate:
			c.Path, c.Other, c.Flags, c.Bytes = "", "/..", 99, make([]byte, 65537)
		case api.CallWrite:
			c.Path, c.Other, c.Size, c.Flags = "x", "", -1, 99
		case api.CallSeek:
			c.Path, c.Other, c.Bytes = "x", "x", make([]byte, 65537)
		case api.CallClose, api.CallStatDesc:
			c.Path, c.Other, c.Size, c.Flags, c.Bytes = "x", "", -1, -1, []byte{1}
		case api.CallLink, api.CallRename:
			c.Desc, c.Size, c.Flags, c.Bytes = 99, -1, -1, make([]byte, 65537)
		case api.CallSync:
			c.Path, c.Other, c.Desc, c.Size, c.Flags, c.Bytes = "x", "x", -1, -1, -1, make([]byte, 65537)
		default:
			c.Other, c.Desc, c.Size, c.Flags, c.Bytes = "x", 99, -1, -1, make([]byte, 65537)
		}
		return c
	}
	x, y := newWorld(t, town(t, small())), newWorld(t, town(t, small()))
	for _, c := range walkthrough() {
		want := x.answers(t, c)
		if got := y.s.Do(filled(c)); !like(got, want) {
			t.Fatalf("%+v: %+v, not %+v", shortCall(filled(c)), short(got), short(want))
		}
	}
	x.whole(t)
	y.s.Do(filled(syncing()))
	if !slices.Equal(x.d.History(), y.d.History()) {
		t.Error("other things were done to the disk")
	}
}

// walkthrough are calls of all kinds, of a town: most are done, some refused.
func walkthrough() []api.Call {
	return []api.Call{
		stating("/"), opening("/a", rw), writing(0, sown(1, 20000)), seeking(0, -9000, 1), reading(0, 4000), statingDesc(0), opening("/new", nu), writing(1, sown(2, 3000)), linking("/new", "/d/new"),
		making("/k"), making("/k/l"), renaming("/d/e", "/k/l"), renaming("/new", "/k/new"), renaming("/b", "/c"), opening("/c", wr|tr), listing("/k"), listing("/"), unlinking("/d/new"), unlinking("/k/new"),
		statingDesc(1), reading(1, 10), truncating(1, 100), truncating(0, 9000), syncing(), closing(1), unlinking("/h"), unlinking("/k"), stating("/k/l/.."), opening("/d", rd), opening("/d", rw), closing(2), closing(0), closing(0),
	}
}

// rule 3: what is answered is new memory, its spare room too, and what is handed in is not kept and not changed.
func TestMemory(t *testing.T) {
	x := newWorld(t, town(t, small()))
	p := sown(4, 3000)
	x.fine(t, opening("/a", rw), writing(0, p))
	if !slices.Equal(p, sown(4, 3000)) {
		t.Error("what was handed in has changed")
	}
	clear(p)
	for range 3 {
		x.fine(t, seeking(0, 0, 0))
		got := x.answers(t, reading(0, 5000))
		clear(got.Bytes[:cap(got.Bytes)])
		for _, path := range []string{"/", "/d"} {
			list := x.answers(t, listing(path)).Entries
			clear(list[:cap(list)])
		}
		// Room behind an answer is nobody else's.
		one, two := x.s.Do(listing("/")).Entries, x.s.Do(listing("/")).Entries
		if len(append(one[:1], make([]api.Entry, cap(one)-1)...)) != cap(one) || two[1].Name != ".." {
			t.Fatal("two answers share their memory")
		}
		x.stands(t)
	}
	x.whole(t)
}

// The embedded files are those of the system: what is promoted tells of the same descriptors.
func TestPromoted(t *testing.T) {
	x := newWorld(t, town(t, small()))
	if got, err := (&tree.System{}).Stat(0); got != (api.Stat{}) || err != api.ErrNil {
		t.Errorf("of no files: %+v, %d", got, err)
	}
	for i := range api.MaxDescs {
		if x.s.Full() {
			t.Fatalf("%d are open: Full", i)
		}
		x.fine(t, opening("/b", rd))
		got, err := x.s.Stat(i)
		if want := x.s.Do(stating("/b")).Stat; got != want || err != api.OK || x.s.Files == nil {
			t.Fatalf("%+v, %d, not %+v", got, err, want)
		}
	}
	if !x.s.Full() {
		t.Error("not Full")
	}
}
