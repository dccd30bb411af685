package route_test

import (
	"math/rand"
	"slices"
	"strings"
	"testing"

	"undercroft/api"
	"undercroft/route"
)

// The chapter's examples.
func TestParseExamples(t *testing.T) {
	for _, c := range []struct {
		path string
		want []string
		err  api.Errno
	}{
		{"/a//b/", []string{"a", "b"}, api.OK},
		{"/", nil, api.OK},
		{"///", nil, api.OK},
		{"/./..", []string{".", ".."}, api.OK},
		{"a/b", nil, api.ErrInval},
		{"", nil, api.ErrInval},
		{"/abcdefghijklmn", []string{"abcdefghijklmn"}, api.OK},
		{"/abcdefghijklmno", nil, api.ErrName},
		{"/abcdefghijklmno\x00", nil, api.ErrInval},
		{strokes(1024), nil, api.OK},
		{strokes(1025), nil, api.ErrInval},
	} {
		if names, err := route.Parse(c.path); err != c.err || !slices.Equal(names, c.want) {
			t.Errorf("Parse(%s): %q, %d, want %q, %d", short(c.path), names, err, c.want, c.err)
		}
	}
}

// The errors' numbers are those that the chapter names.
func TestErrors(t *testing.T) {
	if _, err := route.Parse(""); err != 4 {
		t.Errorf("of no bytes: %d", err)
	}
	if _, err := route.Parse("/" + letters(15)); err != 12 {
		t.Errorf("of a name that is too long: %d", err)
	}
	if _, err := route.Parse("/"); err != 0 {
		t.Errorf("of a stroke: %d", err)
	}
}

// refused holds that Parse answers an error, and no names beside it.
func refused(t *testing.T, path string, want api.Errno) {
	t.Helper()
	if names, err := holdParse(t, path); err != want || len(names) != 0 {
		t.Errorf("Parse(%s): %q, %d, want %d", short(path), names, err, want)
	}
}

// told holds that Parse answers these names.
func told(t *testing.T, path string, want ...string) {
	t.Helper()
	if names, err := holdParse(t, path); err != api.OK || !slices.Equal(names, want) {
		t.Errorf("Parse(%s): %q, %d, want %q", short(path), names, err, want)
	}
}

// A path that begins with anything but a stroke, also one whose names are too long.
func TestNoStrokeAhead(t *testing.T) {
	for c := range 256 {
		if c == '/' {
			continue
		}
		for _, rest := range []string{"", "/", "//", "/a", "a", "a/b", "/" + letters(14), "/" + letters(15), letters(14), letters(15), letters(1023), strokes(1023), strokes(1024), "\x00"} {
			refused(t, string([]byte{byte(c)})+rest, api.ErrInval)
		}
	}
	for _, path := range []string{".", "..", "./a", "../a", "a", " /a", "\\a", "~/a", "\xc3\xa4/a", "\xef\xbc\x8fa", "\xe2\x88\x95a"} {
		refused(t, path, api.ErrInval)
	}
}

// Strokes alone: no names, as many as a path may have.
func TestStrokesAlone(t *testing.T) {
	refused(t, strokes(0), api.ErrInval)
	for n := 1; n <= 1024; n++ {
		told(t, strokes(n))
	}
	for n := 1025; n <= 1100; n++ {
		refused(t, strokes(n), api.ErrInval)
	}
	for _, n := range []int{2047, 2048, 2049, 65535, 65536, 65537, 1 << 20} {
		refused(t, strokes(n), api.ErrInval)
	}
}

// Paths of up to 1,024 bytes and of more, with names of each length, whatever stands at the border: a stroke, a name's end, its middle.
func TestLengths(t *testing.T) {
	for name := 1; name <= 14; name++ {
		for n := 1000; n <= 1024; n++ {
			path := pathOf(n, name)
			names, err := holdParse(t, path)
			if err != api.OK || len(names) != (n+name-1)/(name+1) {
				t.Errorf("%d bytes of names of %d: %d names, %d", n, name, len(names), err)
			}
			told(t, strokes(n-name)+letters(name), letters(name))
			told(t, "/"+letters(name)+strokes(n-1-name), letters(name))
		}
		for n := 1025; n <= 1050; n++ {
			refused(t, pathOf(n, name), api.ErrInval)
			refused(t, strokes(n-name)+letters(name), api.ErrInval)
			refused(t, "/"+letters(name)+strokes(n-1-name), api.ErrInval)
		}
	}
	for _, n := range []int{1025, 2048, 65536, 65537, 1 << 20} {
		refused(t, pathOf(n, 14), api.ErrInval)
		refused(t, pathOf(n, 1), api.ErrInval)
	}
}

// A path that is too long comes ahead of a name that is too long.
func TestTooLongAtOnce(t *testing.T) {
	for name := 15; name <= 1023; name++ {
		refused(t, strokes(1024-name)+letters(name), api.ErrName)
		refused(t, strokes(1025-name)+letters(name), api.ErrInval)
		refused(t, "/"+letters(name)+strokes(1023-name), api.ErrName)
		refused(t, "/"+letters(name)+strokes(1024-name), api.ErrInval)
	}
	for _, name := range []int{1024, 1025, 1026, 65536, 1 << 20} {
		refused(t, "/"+letters(name), api.ErrInval)
	}
	refused(t, pathOf(1024, 15), api.ErrName)
	refused(t, pathOf(1025, 15), api.ErrInval)
}

// A byte 0 at each place of a path, in the place of another byte and between two: ahead of a name that is too long, wherever that one stands.
func TestNought(t *testing.T) {
	long := letters(15)
	for _, path := range []string{
		"/", "//", "/a", "/a/", "/a/b", "//a//b//", "/.", "/..", "/./../.",
		"/" + letters(14), "/" + letters(13), "/a/" + letters(14) + "/b",
		"/" + long, "/" + long + "/b", "/b/" + long, "/b/" + long + "/c", "/" + long + "/" + long, "/" + letters(200),
		strokes(1023), pathOf(1023, 1), pathOf(1023, 14), pathOf(1023, 15), "/" + letters(1022),
	} {
		for at := range len(path) {
			refused(t, with(path, at, 0), api.ErrInval)
			refused(t, path[:at]+"\x00"+path[at:], api.ErrInval)
		}
		refused(t, path+"\x00", api.ErrInval)
		refused(t, path+"\x00/a", api.ErrInval)
		refused(t, path+"/\x00", api.ErrInval)
	}
	for at := range 1024 {
		refused(t, with(strokes(1024), at, 0), api.ErrInval)
		refused(t, with(pathOf(1024, 14), at, 0), api.ErrInval)
		refused(t, with(pathOf(1024, 15), at, 0), api.ErrInval)
	}
	for n := range 1100 {
		refused(t, strings.Repeat("\x00", n), api.ErrInval)
		refused(t, "/"+strings.Repeat("\x00", n+1), api.ErrInval)
	}
}

// Names of each length at the beginning, in the middle and at the end, with strokes behind and without.
func TestNameLengths(t *testing.T) {
	for n := 1; n <= 60; n++ {
		name := letters(n)
		for _, c := range []struct {
			path string
			want []string
		}{
			{"/" + name, []string{name}},
			{"///" + name, []string{name}},
			{"/" + name + "/", []string{name}},
			{"/" + name + "//", []string{name}},
			{"/" + name + "/b/c", []string{name, "b", "c"}},
			{"/a/" + name + "/c", []string{"a", name, "c"}},
			{"/a//" + name + "//c/", []string{"a", name, "c"}},
			{"/a/b/" + name, []string{"a", "b", name}},
			{"/a/b/" + name + "/", []string{"a", "b", name}},
			{"/" + name + "/" + name, []string{name, name}},
			{"/" + name + "/" + name + "/" + name, []string{name, name, name}},
			{"/" + letters(14) + "/" + name, []string{letters(14), name}},
			{"/" + name + "/" + letters(14), []string{name, letters(14)}},
		} {
			if n <= 14 {
				told(t, c.path, c.want...)
			} else {
				refused(t, c.path, api.ErrName)
			}
		}
	}
}

// One name alone is too long, among as many as a path has room for, at each place.
func TestOneTooLong(t *testing.T) {
	for many := 1; many <= 60; many++ {
		names := make([]string, many)
		for at := range names {
			for i := range names {
				names[i] = letters(14)
			}
			told(t, joined(names), names...)
			names[at] = letters(15)
			refused(t, joined(names), api.ErrName)
			refused(t, joined(names)+"/", api.ErrName)
		}
	}
}

// The bytes of a name are counted, not its letters.
func TestLettersOfManyBytes(t *testing.T) {
	for _, letter := range []string{"\xc3\xa4", "\xe2\x82\xac", "\xf0\x9f\x98\x80"} {
		for n := 1; n <= 20; n++ {
			name := strings.Repeat(letter, n)
			if len(name) <= 14 {
				told(t, "/"+name, name)
				told(t, "/a/"+name+"/b", "a", name, "b")
			} else {
				refused(t, "/"+name, api.ErrName)
				refused(t, "/a/"+name+"/b", api.ErrName)
			}
		}
	}
	told(t, "/"+strings.Repeat("\xc3\xa4", 6)+"ab", strings.Repeat("\xc3\xa4", 6)+"ab")
	refused(t, "/"+strings.Repeat("\xc3\xa4", 7)+"a", api.ErrName)
	refused(t, "/"+strings.Repeat("\xe2\x82\xac", 341)+"a", api.ErrInval) // 1,025 bytes, of 343 letters
}

// One stroke or more between names, ahead of them and behind the last one say the same.
func TestStrokesDoubled(t *testing.T) {
	for ahead := 1; ahead <= 4; ahead++ {
		for first := 1; first <= 4; first++ {
			for second := 1; second <= 4; second++ {
				for behind := range 5 {
					for _, l := range [][]string{{"a", "b", "c"}, {letters(14), ".", ".."}, {"..", letters(14), "x"}, {"a", "a", "a"}} {
						told(t, strokes(ahead)+l[0]+strokes(first)+l[1]+strokes(second)+l[2]+strokes(behind), l...)
					}
				}
			}
		}
	}
	told(t, strokes(500)+"a"+strokes(500)+"b"+strokes(22), "a", "b")
}

// . and .. are names like others: nothing is followed, nothing left out.
func TestDots(t *testing.T) {
	for _, l := range lists([]string{".", "..", "...", "a", ".a", "a.", "..a"}, 4) {
		told(t, joined(l), l...)
		told(t, joined(l)+"//", l...)
	}
	for n := 1; n <= 14; n++ {
		told(t, "/"+strings.Repeat(".", n), strings.Repeat(".", n))
	}
	refused(t, "/"+strings.Repeat(".", 15), api.ErrName)
	refused(t, "/../"+strings.Repeat(".", 15)+"/..", api.ErrName)
}

// Bytes are bytes: each from 1 to 255 but a stroke may be in a name, at each place, beside each other.
func TestBytesOfNames(t *testing.T) {
	var may []byte
	for c := 1; c < 256; c++ {
		if c != '/' {
			may = append(may, byte(c))
		}
	}
	for _, c := range may {
		one := string([]byte{c})
		told(t, "/"+one, one)
		told(t, "/"+strings.Repeat(one, 14), strings.Repeat(one, 14))
		refused(t, "/"+strings.Repeat(one, 15), api.ErrName)
		for n := 1; n <= 14; n++ {
			for at := range n {
				name := with(letters(n), at, c)
				told(t, "/"+name, name)
			}
		}
		told(t, "/"+one+"/"+one+"/a"+one+"a/", one, one, "a"+one+"a")
		for _, d := range may {
			name := string([]byte{c, d})
			told(t, "//"+name+"/x", name, "x")
		}
	}
	// All of them in one path, as many in a name as it may have.
	var names []string
	for l := range slices.Chunk(may, 14) {
		names = append(names, string(l))
	}
	told(t, joined(names), names...)
}

// All paths of up to eight bytes out of a stroke, a dot, a letter and a byte 0.
func TestAllShortPaths(t *testing.T) {
	few := []byte{'/', '.', 'a', 0}
	count := 1
	for n := range 9 {
		p := make([]byte, n)
		for k := range count {
			for rest, i := k, 0; i < n; i++ {
				p[i] = few[rest%len(few)]
				rest /= len(few)
			}
			holdParse(t, string(p))
		}
		count *= len(few)
	}
}

// All paths of up to six of a few pieces: strokes, short and long names, a name that is too long, a byte 0.
func TestAllPieces(t *testing.T) {
	for _, l := range lists([]string{"/", "//", "..", letters(13), letters(14), letters(15), "\x00"}, 6) {
		holdParse(t, strings.Join(l, ""))
	}
}

// Paths of all kinds, of up to 1,100 bytes.
func TestManyPaths(t *testing.T) {
	draw := rand.New(rand.NewSource(201))
	var ok, inval, name int
	for range 60000 {
		_, err := holdParse(t, anyPath(draw))
		switch err {
		case api.OK:
			ok++
		case api.ErrInval:
			inval++
		case api.ErrName:
			name++
		}
	}
	if ok < 10000 || inval < 5000 || name < 5000 {
		t.Errorf("too few of a kind: %d OK, %d ErrInval, %d ErrName", ok, inval, name)
	}
}

// anyPath is a path that may mostly be, sometimes with a byte 0, a name that is too long, too many bytes or no stroke ahead.
func anyPath(draw *rand.Rand) string {
	long := draw.Intn(40)
	if draw.Intn(3) == 0 {
		long = draw.Intn(1100)
	}
	var p []byte
	for len(p) < long {
		p = append(p, strokes(1+draw.Intn(8)/5)...)
		p = append(p, anyName(draw)...)
		if draw.Intn(60) == 0 {
			p = append(p, letters(14)...)
		}
	}
	switch draw.Intn(12) {
	case 0:
		if len(p) > 0 {
			p[draw.Intn(len(p))] = 0
		}
	case 1:
		if len(p) > 0 {
			p = p[1:]
		}
	case 2:
		p = append(p, strokes(draw.Intn(4))...)
	}
	return string(p)
}

// Any path, held against the account; without -fuzz the ones below alone.
func FuzzParse(f *testing.F) {
	for _, s := range []string{"", "/", "//", "a", "/a", "/a//b/", "/./..", "/abcdefghijklmn", "/abcdefghijklmno", "/abcdefghijklmno\x00", "/\x00", strokes(1024), strokes(1025)} {
		f.Add(s)
	}
	f.Fuzz(func(t *testing.T, path string) {
		holdParse(t, path)
	})
}
