package route_test

import (
	"math/rand"
	"slices"
	"strconv"
	"strings"
	"testing"

	"undercroft/api"
	"undercroft/route"
)

// The account: what the chapter's words say of paths and names, with nothing of package route in it.

// parsed is what P20.1 says of Parse.
func parsed(path string) ([]string, api.Errno) {
	if path == "" || !strings.HasPrefix(path, "/") || len(path) > 1024 || strings.Contains(path, "\x00") {
		return nil, api.ErrInval
	}
	names := slices.DeleteFunc(strings.Split(path, "/"), func(s string) bool { return s == "" })
	if slices.ContainsFunc(names, func(s string) bool { return len(s) > 14 }) {
		return nil, api.ErrName
	}
	return names, api.OK
}

// special is what P20.1 says of Special.
func special(names []string) bool {
	return len(names) == 0 || slices.Contains([]string{".", ".."}, names[len(names)-1])
}

// joined is what P20.1 says of Join: a stroke ahead of each name is one at the beginning and one between each two.
func joined(names []string) string { return "/" + strings.Join(names, "/") }

// single is a path with single strokes and none at its end, but a stroke alone where there are no names (P20.2).
func single(path string) string {
	for strings.Contains(path, "//") {
		path = strings.ReplaceAll(path, "//", "/")
	}
	if path == "/" {
		return path
	}
	return strings.TrimSuffix(path, "/")
}

// mayBe tells whether P20.3 speaks of these names.
func mayBe(names []string) bool {
	long := 0
	for _, s := range names {
		if len(s) < 1 || len(s) > 14 || strings.ContainsAny(s, "/\x00") {
			return false
		}
		long += 1 + len(s)
	}
	return max(1, long) <= 1024
}

// holdParse holds Parse against the account, and what Join and Parse make of the names that it told (P20.2). It answers the names.
func holdParse(t testing.TB, path string) ([]string, api.Errno) {
	t.Helper()
	names, err := route.Parse(path)
	want, wantErr := parsed(path)
	if err != wantErr || !slices.Equal(names, want) {
		t.Errorf("Parse(%s): %q, %d, want %q, %d", short(path), names, err, want, wantErr)
	}
	if err != api.OK {
		return names, err
	}
	one := route.Join(names...)
	if one != single(path) {
		t.Errorf("Join of Parse(%s): %s, want %s", short(path), short(one), short(single(path)))
	}
	if again, err := route.Parse(one); err != api.OK || !slices.Equal(again, names) {
		t.Errorf("Parse of Join of Parse(%s): %q, %d, want %q", short(path), again, err, names)
	}
	return names, err
}

// holdNames holds Special and Join of names against the account, and Parse of their Join, and that they are left as they were. It answers the path.
func holdNames(t testing.TB, names []string) string {
	t.Helper()
	before := slices.Clone(names)
	if got := route.Special(names); got != special(before) {
		t.Errorf("Special(%s): %v", shortList(before), got)
	}
	path := route.Join(names...)
	if path != joined(before) {
		t.Errorf("Join(%s): %s, want %s", shortList(before), short(path), short(joined(before)))
	}
	back, err := holdParse(t, path)
	if mayBe(before) && (err != api.OK || !slices.Equal(back, before)) {
		t.Errorf("Parse of Join(%s): %q, %d", shortList(before), back, err)
	}
	if !slices.Equal(names, before) {
		t.Errorf("%s were handed in, and are %s", shortList(before), shortList(names))
	}
	return path
}

// short is a text as a fault tells it: quoted, and not all of a long one.
func short(s string) string {
	if len(s) > 90 {
		return strconv.Quote(s[:40]) + " and " + strconv.Itoa(len(s)-80) + " bytes and " + strconv.Quote(s[len(s)-40:])
	}
	return strconv.Quote(s)
}

// shortList is a list of names as a fault tells it.
func shortList(names []string) string {
	if len(names) > 8 {
		return shortList(names[:8]) + " and " + strconv.Itoa(len(names)-8) + " more"
	}
	var l []string
	for _, s := range names {
		l = append(l, short(s))
	}
	return strings.Join(l, ", ")
}

// letters are n bytes that may all be in a name, unlike their neighbours.
func letters(n int) string { return strings.Repeat("abcdefghijklmnopqrstuvwxyz", n/26+1)[:n] }

// with is s with another byte at a place.
func with(s string, at int, c byte) string {
	p := []byte(s)
	p[at] = c
	return string(p)
}

// strokes are n strokes.
func strokes(n int) string { return strings.Repeat("/", n) }

// pathOf is a path of just so many bytes that may be: names of one length, the last one cut short, or a stroke more where there is no room for a name.
func pathOf(bytes, name int) string {
	return strings.Repeat("/"+letters(name), bytes/(name+1)+1)[:bytes]
}

// lists are all lists of up to most of these texts.
func lists(of []string, most int) [][]string {
	all := [][]string{nil}
	last := all
	for range most {
		var longer [][]string
		for _, l := range last {
			for _, s := range of {
				longer = append(longer, append(slices.Clone(l), s))
			}
		}
		all = append(all, longer...)
		last = longer
	}
	return all
}

// anyName is a name that may be: some letters, some dots, some bytes of any kind but a stroke and 0.
func anyName(draw *rand.Rand) string {
	p := make([]byte, 1+draw.Intn(14))
	for i := range p {
		switch draw.Intn(6) {
		case 0:
			p[i] = '.'
		case 1:
			for p[i] == 0 || p[i] == '/' {
				p[i] = byte(draw.Intn(256))
			}
		default:
			p[i] = byte('a' + draw.Intn(26))
		}
	}
	return string(p)
}
