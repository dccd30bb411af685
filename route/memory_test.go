package route_test

import (
	"slices"
	"strings"
	"testing"
	"unsafe"

	"undercroft/api"
	"undercroft/route"
)

// over is a text that stands on bytes which a test may write over afterwards.
func over(p []byte) string { return unsafe.String(unsafe.SliceData(p), len(p)) }

// spoil writes over all of some bytes.
func spoil(p []byte) {
	for i := range p {
		p[i] = '#'
	}
}

// paths are paths with no names, with one and with many, of one byte and of 14.
func paths() []string {
	return []string{"/", "///", "/a", "/./..", "/a//b/", "/a/a/a/a", "/" + letters(14), pathOf(1024, 14), pathOf(1024, 1), strokes(1000) + letters(14)}
}

// apart tells whether no two of these texts share a byte of memory.
func apart(texts []string) bool {
	type span struct{ from, to uintptr }
	var l []span
	for _, s := range texts {
		if s != "" {
			from := uintptr(unsafe.Pointer(unsafe.StringData(s)))
			l = append(l, span{from, from + uintptr(len(s))})
		}
	}
	slices.SortFunc(l, func(a, b span) int {
		if a.from < b.from {
			return -1
		}
		return 1
	})
	for i := 1; i < len(l); i++ {
		if l[i].from < l[i-1].to {
			return false
		}
	}
	return true
}

// Names stay as they are when the path's bytes do not.
func TestNamesStandAlone(t *testing.T) {
	for _, path := range paths() {
		p := []byte(path)
		names, err := route.Parse(over(p))
		spoil(p)
		if want, _ := parsed(path); err != api.OK || !slices.Equal(names, want) {
			t.Errorf("Parse(%s), and its bytes written over: %q, %d", short(path), names, err)
		}
	}
}

// A path stays as it is when the bytes of its names do not, nor the list.
func TestPathStandsAlone(t *testing.T) {
	for _, l := range [][]string{{""}, {"a"}, {"/"}, {"a", "b"}, {letters(14)}, {"", "a/b", ""}, {letters(5000), "x"}, slices.Repeat([]string{"name"}, 3000)} {
		want := joined(l)
		var bytes [][]byte
		var names []string
		for _, s := range l {
			bytes = append(bytes, []byte(s))
			names = append(names, over(bytes[len(bytes)-1]))
		}
		path := route.Join(names...)
		for i := range names {
			spoil(bytes[i])
			names[i] = "other"
		}
		if path != want {
			t.Errorf("Join(%s), and the names written over: %s", shortList(l), short(path))
		}
	}
}

// No name shares memory with the path, with another name of its answer, or with one of another answer.
func TestNamesShareNothing(t *testing.T) {
	for _, path := range paths() {
		texts := []string{path}
		for range 3 {
			names, err := route.Parse(path)
			if err != api.OK {
				t.Fatalf("Parse(%s): %d", short(path), err)
			}
			texts = append(texts, names...)
		}
		if !apart(texts) {
			t.Errorf("Parse(%s): names share memory", short(path))
		}
	}
}

// No path shares memory with a name, or with another path.
func TestPathsShareNothing(t *testing.T) {
	for _, l := range [][]string{nil, {""}, {"a"}, {"/"}, {"/a"}, {"a", "b"}, {"", "", ""}, {letters(14), letters(13)}} {
		var texts []string
		for _, s := range l {
			texts = append(texts, strings.Clone(s))
		}
		list := slices.Clone(texts)
		for range 3 {
			texts = append(texts, route.Join(list...))
		}
		if !apart(texts) {
			t.Errorf("Join(%s): paths share memory", shortList(l))
		}
	}
}

// One answer is written over, its spare room too, and appended to: the other is as it was, and so is a third one.
func TestListsShareNothing(t *testing.T) {
	for _, path := range paths() {
		want, _ := parsed(path)
		one, _ := route.Parse(path)
		two, _ := route.Parse(path)
		kept := slices.Clone(two[:cap(two)])
		full := one[:cap(one)]
		for i := range full {
			full[i] = "spoilt"
		}
		one = append(one, "more", "and more")
		one = append(one[:0], "other")
		if !slices.Equal(two, want) || !slices.Equal(two[:cap(two)], kept) {
			t.Errorf("Parse(%s): another answer was written over: %q", short(path), two)
		}
		three, err := route.Parse(path)
		if err != api.OK || !slices.Equal(three, want) {
			t.Errorf("Parse(%s): behind an answer that was written over: %q, %d", short(path), three, err)
		}
	}
}

// What stands in the spare room of an answer is nothing: no name of a path that was parsed ahead of it, nor of its own.
func TestSpareRoomIsEmpty(t *testing.T) {
	for range 3 {
		for _, path := range paths() {
			names, _ := route.Parse(path)
			for i, s := range names[len(names):cap(names)] {
				if s != "" {
					t.Errorf("Parse(%s): %q stands %d behind the last name", short(path), s, i)
				}
			}
		}
	}
}

// Beside an error there is no list, nor room for one that has names in it.
func TestNothingBesideAnError(t *testing.T) {
	for _, path := range []string{"", "a", "a/b/c", "/a/b/c\x00", "/a/b/" + letters(15), "/" + letters(15) + "/a", strokes(1025), pathOf(1025, 3)} {
		names, err := route.Parse(path)
		if err == api.OK || len(names) != 0 {
			t.Errorf("Parse(%s): %q, %d", short(path), names, err)
		}
		for _, s := range names[:cap(names)] {
			if s != "" {
				t.Errorf("Parse(%s): %q stands in the room of no names", short(path), s)
			}
		}
	}
}

// The list that is handed in is left as it was, what stands ahead of it, behind it and in its spare room too.
func TestListIsLeft(t *testing.T) {
	for _, l := range [][]string{{"a"}, {"."}, {"a", ".."}, {"", "/", "a/b"}, slices.Repeat([]string{"name"}, 100)} {
		for from := range len(l) {
			for to := from; to <= len(l); to++ {
				all := make([]string, len(l), len(l)+5)
				copy(all, l)
				room := all[len(l):cap(all)]
				for i := range room {
					room[i] = "spare"
				}
				piece := all[from:to]
				if got := route.Special(piece); got != special(l[from:to]) {
					t.Errorf("Special(%s): %v", shortList(piece), got)
				}
				if path := route.Join(piece...); path != joined(l[from:to]) {
					t.Errorf("Join(%s): %s", shortList(l[from:to]), short(path))
				}
				if !slices.Equal(all, l) || !slices.Equal(room, slices.Repeat([]string{"spare"}, 5)) {
					t.Fatalf("%s were handed in, and are %s, with %s behind them", shortList(l), shortList(all), shortList(room))
				}
			}
		}
	}
}

// The bytes of a path that is handed in are left as they were, and so are those of names.
func TestBytesAreLeft(t *testing.T) {
	for _, path := range append(paths(), "", "a", "/a\x00", "/"+letters(15), strokes(1025)) {
		p := []byte(path)
		route.Parse(over(p))
		route.Special([]string{over(p)})
		route.Join(over(p), over(p))
		if string(p) != path {
			t.Errorf("%s was handed in, and is %s", short(path), short(string(p)))
		}
	}
}

// The same is answered each time, whatever was asked in between.
func TestNothingIsKept(t *testing.T) {
	all := append(paths(), "", "a", "/a\x00", "/"+letters(15), strokes(1025), "/..")
	for range 3 {
		for _, first := range all {
			for _, second := range all {
				holdParse(t, first)
				names, _ := holdParse(t, second)
				holdNames(t, names)
			}
		}
	}
}
