package route_test

import (
	"math/rand"
	"slices"
	"strings"
	"testing"

	"undercroft/api"
	"undercroft/route"
)

// The chapter's examples.
func TestSpecialExamples(t *testing.T) {
	for _, l := range [][]string{nil, {}, {"."}, {"a", ".."}} {
		if !route.Special(l) {
			t.Errorf("Special(%q): false", l)
		}
	}
	for _, l := range [][]string{{"a"}, {"..", "a"}, {"..."}} {
		if route.Special(l) {
			t.Errorf("Special(%q): true", l)
		}
	}
}

// The chapter's examples.
func TestJoinExamples(t *testing.T) {
	if path := route.Join(); path != "/" {
		t.Errorf("Join(): %q", path)
	}
	if path := route.Join("a", "b"); path != "/a/b" {
		t.Errorf("Join(a, b): %q", path)
	}
}

// Special looks at the last name alone, and at all of it.
func TestSpecial(t *testing.T) {
	ahead := [][]string{nil, {"a"}, {"."}, {".."}, {""}, {".", "."}, {"a", "..", "b"}, {"..", "..", "..", ".."}, slices.Repeat([]string{"a"}, 600)}
	for _, l := range ahead {
		for _, last := range []string{".", ".."} {
			if !route.Special(append(slices.Clone(l), last)) {
				t.Errorf("Special of %d names and %q: false", len(l), last)
			}
		}
		for _, last := range []string{
			"", "a", "...", "....", "..............", ".a", "..a", "a.", "a..", ". ", " .", ".. ", " ..", ". .", "\n.", ".\n", ".\x00", "..\x00", "\x00", "\x00.",
			"/", "./", "../", "/.", "/..", "./.", "../..", "a/..", "\xff", ".\xff", "..\xff", "\xe2\x80\xa4", "\xe2\x80\xa5", ",", "-", "..................................", letters(70000) + "..",
		} {
			if route.Special(append(slices.Clone(l), last)) {
				t.Errorf("Special of %d names and %s: true", len(l), short(last))
			}
		}
	}
	for c := range 256 {
		one := string([]byte{byte(c)})
		for _, last := range []string{one, one + ".", "." + one, one + "..", ".." + one, one + one} {
			if got := route.Special([]string{"x", last}); got != (last == "." || last == "..") {
				t.Errorf("Special(x, %q): %v", last, got)
			}
		}
	}
}

// A piece of a list ends where the piece ends: what stands in its spare room is not the last name.
func TestSpecialOfAPiece(t *testing.T) {
	l := []string{"a", "..", "b", "."}
	for n, want := range []bool{true, false, true, false, true} {
		if got := route.Special(l[:n]); got != want {
			t.Errorf("Special(%q): %v", l[:n], got)
		}
	}
}

// A stroke and the name, for each, whatever it is: names with strokes in them, empty ones, and such as no path has.
func TestJoin(t *testing.T) {
	for _, c := range []struct {
		names []string
		want  string
	}{
		{[]string{}, "/"},
		{[]string{"a"}, "/a"},
		{[]string{".."}, "/.."},
		{[]string{".", "..", "..."}, "/./../..."},
		{[]string{"a", "b", "c", "d", "e"}, "/a/b/c/d/e"},
		{[]string{""}, "/"},
		{[]string{"", ""}, "//"},
		{[]string{"", "", ""}, "///"},
		{[]string{"", "a"}, "//a"},
		{[]string{"a", ""}, "/a/"},
		{[]string{"a", "", "b"}, "/a//b"},
		{[]string{"", "a", "", ""}, "//a//"},
		{[]string{"/"}, "//"},
		{[]string{"/", "/"}, "////"},
		{[]string{"/a"}, "//a"},
		{[]string{"a/"}, "/a/"},
		{[]string{"a/b"}, "/a/b"},
		{[]string{"/a/", "/b/"}, "//a///b/"},
		{[]string{"a/b", "c//d"}, "/a/b/c//d"},
		{[]string{"\x00"}, "/\x00"},
		{[]string{"a\x00b", "\x00"}, "/a\x00b/\x00"},
		{[]string{"\xff", "\xc3", "\xa4"}, "/\xff/\xc3/\xa4"},
		{[]string{letters(14), letters(15)}, "/" + letters(14) + "/" + letters(15)},
		{[]string{letters(70000)}, "/" + letters(70000)},
		{slices.Repeat([]string{"a"}, 70000), strings.Repeat("/a", 70000)},
		{make([]string, 70000), strokes(70000)},
	} {
		if path := route.Join(c.names...); path != c.want {
			t.Errorf("Join(%s): %s, want %s", shortList(c.names), short(path), short(c.want))
		}
	}
	if path := route.Join(nil...); path != "/" {
		t.Errorf("Join of nil: %q", path)
	}
	if path := route.Join("a", "b/c", ""); path != "/a/b/c/" {
		t.Errorf("Join(a, b/c, and no bytes): %q", path)
	}
}

// Each byte in a name stays what it is.
func TestJoinBytes(t *testing.T) {
	for c := range 256 {
		one := string([]byte{byte(c)})
		if path := route.Join(one, "x"+one+"y"); path != "/"+one+"/x"+one+"y" {
			t.Errorf("Join of the byte %d: %q", c, path)
		}
	}
}

// Join knows no bound of a path's bytes.
func TestJoinKnowsNoBound(t *testing.T) {
	for n := 1000; n <= 1050; n++ {
		if path := route.Join(letters(n)); path != "/"+letters(n) {
			t.Errorf("Join of a name of %d bytes: %s", n, short(path))
		}
		if path := route.Join(make([]string, n)...); path != strokes(n) {
			t.Errorf("Join of %d empty names: %s", n, short(path))
		}
	}
}

// Every list of up to five of a few names, such as may be and such as may not.
func TestAllLists(t *testing.T) {
	for _, l := range lists([]string{"", "a", ".", "..", "/", "b/", "\x00", letters(14), letters(15)}, 5) {
		holdNames(t, l)
	}
}

// P20.3: names that may be, of each length, as many as a path has room for and one more byte.
func TestAsManyAsFit(t *testing.T) {
	for n := 1; n <= 14; n++ {
		for many := range 1024/(n+1) + 3 {
			names := slices.Repeat([]string{letters(n)}, many)
			path := holdNames(t, names)
			if _, err := route.Parse(path); (err == api.OK) != (many*(n+1) <= 1024) {
				t.Errorf("%d names of %d bytes: %d", many, n, err)
			}
			// One name more brings the path to each length about the border.
			for last := 1; last <= 14; last++ {
				if long := many*(n+1) + last + 1; long < 1015 || long > 1035 {
					continue
				}
				path := holdNames(t, append(slices.Clone(names), letters(last)))
				if _, err := route.Parse(path); (err == api.OK) != (len(path) <= 1024) {
					t.Errorf("%d names of %d bytes and one of %d, %d bytes: %d", many, n, last, len(path), err)
				}
			}
		}
	}
}

// P20.3: names of any bytes that may be in one.
func TestManyLists(t *testing.T) {
	draw := rand.New(rand.NewSource(203))
	may := 0
	for range 30000 {
		names := make([]string, draw.Intn(10))
		if draw.Intn(10) == 0 {
			names = make([]string, draw.Intn(200))
		}
		for i := range names {
			names[i] = anyName(draw)
		}
		if mayBe(names) {
			may++
		}
		holdNames(t, names)
	}
	if may < 20000 {
		t.Errorf("too few that may be: %d", may)
	}
}

// P20.2, on paths that are told one way: what differs in strokes alone has the same names.
func TestSameNames(t *testing.T) {
	draw := rand.New(rand.NewSource(202))
	for range 20000 {
		names := make([]string, draw.Intn(12))
		one, other := "", strokes(1+draw.Intn(3))
		for i := range names {
			names[i] = anyName(draw)
			one += "/" + names[i]
			other += names[i] + strokes(1+draw.Intn(3))
		}
		if len(names) == 0 {
			one = "/"
		}
		told(t, one, names...)
		told(t, other, names...)
		if got, err := route.Parse(other); err != api.OK || route.Join(got...) != one {
			t.Errorf("Join of Parse(%s): %s, want %s", short(other), short(route.Join(got...)), short(one))
		}
	}
}

// Any two names, held against the account; without -fuzz the ones below alone.
func FuzzNames(f *testing.F) {
	for _, s := range []string{"", "a", ".", "..", "/", "\x00", letters(14), letters(15), letters(1023)} {
		f.Add(s, "b")
		f.Add("b", s)
	}
	f.Fuzz(func(t *testing.T, first, second string) {
		holdNames(t, nil)
		holdNames(t, []string{first})
		holdNames(t, []string{first, second})
		holdNames(t, []string{first, second, first})
	})
}
