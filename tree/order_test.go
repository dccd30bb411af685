package tree_test

import (
	"math"
	"slices"
	"strconv"
	"strings"
	"testing"

	"undercroft/api"
)

// forms are paths of every form, of a town with a directory /full whose slots all have entries.
func forms() []string {
	long := strings.Repeat("/", 1024)
	return []string{
		"", "a", "a/", ".", "./a", "..", "x/y", "\x00", "/\x00", "/a\x00", "/x/\x00", "/fifteen letters\x00", long + "/", long[1:] + "ab", long + "a/\x00", long + "/fifteen letters",
		"/", "//", "///", long, "/.", "/..", "//..//", "/../.", "/d/.", "/d/..", "/d/e/../..", "/a/.", "/a/..", "/x/.", "/x/..", "/h/.", "/.x", "/...", "/d/...",
		"/a", "/b", "/a/", "//a", "///a///", "/./a", "/../a", "/d/../a", "/d/e/../../a", long[3:] + "a/", "/d/f", "/g", "/d/e/i", "/d", "/d/", "/d/e", "/h", "/j", "/j/k", "/j/m", "/full", "/full/n3", "/full/.", "/c",
		"/x", "/d/x", "/h/x", "/d/e/x", "/j/x", "/full/x", "/full/../x", "/x/y", "/x/../y", "/d/x/y", "/a/x", "/d/f/x", "/a/x/y", "/a/../x", "/g/./x", "/h/../h/x", "/fourteenletter", "/d/fourteenletter", long[3:] + "x//",
		"/fifteen letters", "/fifteen-letters/", "/x/fifteen letters", "/a/fifteen-letters", "/fifteen-letters/a", "/d/fifteen-letters/..", "/\xff\xfe", "/d/\x01 \x80",
	}
}

// few are some of these forms, one of each sort at least.
func few() []string {
	return []string{
		"", "a", "/a\x00", strings.Repeat("/", 1025), "/fifteen letters", "/x/fifteen-letters", "/", "//", "/.", "/d/..", "/a/.", "/x/..", "/a", "//b/", "/d/f", "/g", "/d/e/i", "/d", "/d/e", "/h", "/j", "/full", "/full/n3",
		"/x", "/d/x", "/h/x", "/full/x", "/d/e/x", "/d/x/y", "/a/x", "/a/x/y", "/m0",
	}
}

// stage is a system on which many calls are tried, each behind the same calls.
type stage struct {
	x      *world
	a      *account // what the disk holds at first
	before []api.Call
	seen   map[api.CallKind]map[api.Errno]int
}

func newStage(t testing.TB, a *account, before ...api.Call) *stage {
	s := &stage{a: a, before: before, seen: map[api.CallKind]map[api.Errno]int{}}
	s.set(t)
	return s
}

// set begins anew.
func (s *stage) set(t testing.TB) {
	t.Helper()
	s.x = newWorld(t, s.a)
	for _, c := range s.before {
		if got := s.x.answers(t, c); got.Err != api.OK {
			t.Fatalf("%+v: %+v", shortCall(c), short(got))
		}
	}
}

// try makes a call; where it changed something, the next one finds it undone.
func (s *stage) try(t testing.TB, c api.Call) api.Result {
	steps, descs := s.x.a.steps, s.x.a.descs
	got := s.x.answers(t, c)
	if s.seen[c.Kind] == nil {
		s.seen[c.Kind] = map[api.Errno]int{}
	}
	s.seen[c.Kind][got.Err]++
	if s.x.a.steps != steps || s.x.a.descs != descs {
		s.x.sees(t)
		s.x.stands(t)
		s.set(t)
	}
	return got
}

// found asks whether a kind of call was answered by each of some errors.
func (s *stage) found(t testing.TB, kind api.CallKind, errs ...api.Errno) {
	t.Helper()
	for _, err := range errs {
		if s.seen[kind][err] == 0 {
			t.Errorf("kind %d: no call was answered by %d: %v", kind, err, s.seen[kind])
		}
	}
}

// end asks whether all that was refused has changed nothing.
func (s *stage) end(t testing.TB) {
	t.Helper()
	s.x.sees(t)
	s.x.whole(t)
}

// stages are systems on which each sort of error comes: all descriptors open, all inodes held, no block free, one block free, no inode free, and some of that together.
func stages(t testing.TB) map[string]*stage {
	t.Helper()
	var same, eight []api.Call
	for i := range 16 {
		same = append(same, opening("/d/f", rw))
		if i < 8 {
			eight = append(eight, opening("/m"+strconv.Itoa(i), nu))
		}
	}
	sixteen := slices.Concat(eight, eight)
	begun := full(t, town(t, snug()), "/full", 64)
	taken := func(left int) *account { return leaves(t, begun, left) }
	inodes := func(a *account) *account { return leavesNodes(t, a) }
	held := built(t, begun, eight...)
	return map[string]*stage{
		"plain":                     newStage(t, begun),
		"all descriptors":           newStage(t, begun, same...),
		"all inodes held":           newStage(t, held, eight...),
		"both":                      newStage(t, held, sixteen...),
		"no block":                  newStage(t, taken(0)),
		"one block":                 newStage(t, taken(1)),
		"two blocks":                newStage(t, taken(2)),
		"no inode":                  newStage(t, inodes(begun)),
		"no block, no inode":        newStage(t, inodes(taken(0))),
		"no block, all held":        newStage(t, leaves(t, held, 0), eight...),
		"nothing at all":            newStage(t, inodes(leaves(t, held, 0)), sixteen...),
		"no inode, all descriptors": newStage(t, inodes(taken(1)), same...),
	}
}

// leaves is an account in which a file /b has all blocks but so many.
func leaves(t testing.TB, a *account, left int) *account {
	t.Helper()
	a = a.again()
	a.do(opening("/b", rw))
	a.do(seeking(0, 0, 2))
	for a.free() > left {
		n := 1024
		if x := a.items[3]; x.size() < 3072 {
			n = 72
		} else if x.tables[single] == 0 && x.size() == 10240 {
			n = 1024 * min(2, a.free()-left-1) // the single index block, too
		}
		if got := a.do(writing(0, sown(n, n))); got.Value != n {
			t.Fatalf("%d blocks are free, not %d: %+v", a.free(), left, got)
		}
	}
	if a.free() != left {
		t.Fatalf("%d blocks are free, not %d", a.free(), left)
	}
	return built(t, a)
}

// leavesNodes is an account in which no inode is free: there are files /z0, /z1 and so on.
func leavesNodes(t testing.TB, a *account) *account {
	t.Helper()
	a = a.again()
	for i := 0; a.spare() > 0; i++ {
		if got := a.do(opening("/z"+strconv.Itoa(i), nu)); got.Err != api.OK {
			t.Fatalf("%+v", got)
		}
		a.do(closing(0))
	}
	return built(t, a)
}

// P27.2, P27.6: CallOpen: every path with every set of flags, on each of the stages.
func TestOpenOrder(t *testing.T) {
	all := map[api.Errno]bool{}
	for name, s := range stages(t) {
		flags := []int{rd, rw, nu, rd | cr | ex, rw | tr, wr | cr | tr, 0, rd | tr, ex | rd}
		paths := few()
		if name == "plain" {
			paths = forms()
			for f := range 33 {
				flags = append(flags, f)
			}
		}
		flags = append(flags, 32|rd, 64|rw, -1, math.MinInt|1, 1<<20|rw)
		for _, path := range paths {
			for _, f := range flags {
				s.try(t, opening(path, f))
			}
		}
		s.end(t)
		for err := range s.seen[api.CallOpen] {
			all[err] = true
		}
		switch name {
		case "plain":
			s.found(t, api.CallOpen, api.OK, api.ErrInval, api.ErrName, api.ErrNoEnt, api.ErrNotDir, api.ErrExist, api.ErrIsDir)
		case "all descriptors", "both":
			s.found(t, api.CallOpen, api.ErrInval, api.ErrName, api.ErrMfile)
			if len(s.seen[api.CallOpen]) != 3 {
				t.Errorf("%s: %v", name, s.seen)
			}
		}
	}
	for _, err := range []api.Errno{api.ErrNfile, api.ErrNoSpace} {
		if !all[err] {
			t.Errorf("no call was answered by %d", err)
		}
	}
}

// P27.2, P27.6: the calls of one path: every path, on each of the stages.
func TestPathOrder(t *testing.T) {
	all := map[api.CallKind]map[api.Errno]bool{}
	for _, s := range stages(t) {
		for _, path := range forms() {
			for _, c := range []api.Call{stating(path), listing(path), making(path), unlinking(path)} {
				s.try(t, c)
			}
		}
		s.end(t)
		for kind, errs := range s.seen {
			if all[kind] == nil {
				all[kind] = map[api.Errno]bool{}
			}
			for err := range errs {
				all[kind][err] = true
			}
		}
	}
	for kind, errs := range map[api.CallKind][]api.Errno{
		api.CallStat:    {api.OK, api.ErrInval, api.ErrName, api.ErrNoEnt, api.ErrNotDir},
		api.CallReadDir: {api.OK, api.ErrInval, api.ErrName, api.ErrNoEnt, api.ErrNotDir},
		api.CallMkdir:   {api.OK, api.ErrInval, api.ErrName, api.ErrExist, api.ErrNoEnt, api.ErrNotDir, api.ErrNoSpace},
		api.CallUnlink:  {api.OK, api.ErrInval, api.ErrName, api.ErrBusy, api.ErrNoEnt, api.ErrNotDir, api.ErrNotEmpty},
	} {
		for _, err := range errs {
			if !all[kind][err] {
				t.Errorf("kind %d: no call was answered by %d", kind, err)
			}
		}
		if len(all[kind]) != len(errs) {
			t.Errorf("kind %d: %v", kind, all[kind])
		}
	}
}

// P27.2, P27.6: the calls of two paths: each with each other, on each of the stages.
func TestPathsOrder(t *testing.T) {
	for name, s := range stages(t) {
		paths, others := few(), few()
		if name == "plain" {
			others = forms()
		}
		for _, path := range paths {
			for _, other := range others {
				s.try(t, linking(path, other))
				s.try(t, renaming(path, other))
				if name == "plain" {
					s.try(t, linking(other, path))
					s.try(t, renaming(other, path))
				}
			}
		}
		s.end(t)
		s.found(t, api.CallLink, api.ErrInval, api.ErrName, api.ErrNoEnt, api.ErrNotDir, api.ErrPerm, api.ErrExist)
		s.found(t, api.CallRename, api.OK, api.ErrInval, api.ErrName, api.ErrBusy, api.ErrNoEnt, api.ErrNotDir, api.ErrIsDir, api.ErrNotEmpty)
		if strings.Contains(name, "no block") {
			s.found(t, api.CallLink, api.ErrNoSpace)
			s.found(t, api.CallRename, api.ErrNoSpace)
		}
	}
}

// P27.2: the calls on descriptors: every one with numbers of every size, on some of the stages.
func TestDescOrder(t *testing.T) {
	all := stages(t)
	sizes := []int{math.MinInt, -1, 0, 1, 100, 65536, 65537, api.MaxFile, api.MaxFile + 1, math.MaxInt}
	for _, name := range []string{"plain", "both", "no block"} {
		s := all[name]
		if name != "both" {
			s = newStage(t, s.a, opening("/b", rw), opening("/d", rd), opening("/d/f", rd), opening("/c", wr), opening("/j", rd), opening("/a", rw))
		}
		for desc := -1; desc < 17; desc++ {
			for _, n := range sizes {
				for _, c := range []api.Call{reading(desc, n), seeking(desc, n, 0), seeking(desc, n, 1), seeking(desc, n, 2), seeking(desc, 1, n), truncating(desc, n), writing(desc, make([]byte, min(max(0, n), 65537))), closing(desc), statingDesc(desc)} {
					s.try(t, c)
				}
			}
		}
		s.end(t)
		s.found(t, api.CallRead, api.OK, api.ErrBad, api.ErrInval)
		s.found(t, api.CallWrite, api.OK, api.ErrBad, api.ErrInval)
		s.found(t, api.CallTruncate, api.OK, api.ErrBad, api.ErrInval, api.ErrBig)
		s.found(t, api.CallSeek, api.OK, api.ErrBad, api.ErrInval)
	}
}
