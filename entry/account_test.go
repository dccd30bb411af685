package entry_test

import (
	"strconv"
	"strings"
	"testing"

	"undercroft/api"
	"undercroft/entry"
)

// The account: what the chapter's words say of names, entries and bytes, with nothing of package entry in it.

// named is what P18.1 says of a name.
func named(s string) api.Errno {
	switch {
	case len(s) == 0, strings.Count(s, "\x00") > 0, strings.Count(s, "/") > 0:
		return api.ErrInval
	case len(s) > 14:
		return api.ErrName
	}
	return api.OK
}

// written is what P18.2 says of an entry.
func written(e api.Entry) (entry.Bytes, api.Errno) {
	if e.Inum == 0 {
		if e.Name == "" {
			return entry.Bytes{}, api.OK
		}
		return entry.Bytes{}, api.ErrInval
	}
	if err := named(e.Name); err != api.OK {
		return entry.Bytes{}, err
	}
	b := entry.Bytes{0: byte(e.Inum % 256), 1: byte(e.Inum / 256)}
	for i := range len(e.Name) {
		b[2+i] = e.Name[i]
	}
	return b, api.OK
}

// read is what P18.3 says of bytes: of all entries that could have them, the number being given by the first two and the name by some of those behind, the one that is written so.
func read(t testing.TB, b entry.Bytes) (api.Entry, api.Errno) {
	t.Helper()
	var of []api.Entry
	for n := range 15 {
		e := api.Entry{Inum: uint16(b[0]) + 256*uint16(b[1]), Name: string(b[2 : 2+n])}
		if w, err := written(e); err == api.OK && w == b {
			of = append(of, e)
		}
	}
	switch len(of) {
	case 0:
		return api.Entry{}, api.ErrInval
	case 1:
		return of[0], api.OK
	}
	t.Fatalf("the account has two entries of the bytes %v: %+v", b, of)
	return api.Entry{}, api.OK
}

// holdName holds Name against the account.
func holdName(t testing.TB, s string) {
	t.Helper()
	if got, want := entry.Name(s), named(s); got != want {
		t.Errorf("Name(%s): %d, want %d", short(s), got, want)
	}
}

// holdEntry holds Encode against the account, and Decode of its bytes (P18.4).
func holdEntry(t testing.TB, e api.Entry) {
	t.Helper()
	b, err := entry.Encode(e)
	want, wantErr := written(e)
	if b != want || err != wantErr {
		t.Errorf("Encode(%d %s): %v, %d, want %v, %d", e.Inum, short(e.Name), b, err, want, wantErr)
	}
	if err != api.OK {
		return
	}
	if back, err := entry.Decode(b); back != e || err != api.OK {
		t.Errorf("Decode of Encode(%d %q): %d %q, %d", e.Inum, e.Name, back.Inum, back.Name, err)
	}
}

// holdBytes holds Decode against the account, and Encode of what it tells (P18.4).
func holdBytes(t testing.TB, b entry.Bytes) {
	t.Helper()
	e, err := entry.Decode(b)
	want, wantErr := read(t, b)
	if e != want || err != wantErr {
		t.Errorf("Decode(%v): %d %q, %d, want %d %q, %d", b, e.Inum, e.Name, err, want.Inum, want.Name, wantErr)
	}
	if err != api.OK {
		return
	}
	if again, err := entry.Encode(e); again != b || err != api.OK {
		t.Errorf("Encode of Decode(%v): %v, %d", b, again, err)
	}
}

// short is a name as a fault tells it: quoted, and not all of a long one.
func short(s string) string {
	if len(s) > 60 {
		return strconv.Quote(s[:60]) + " and " + strconv.Itoa(len(s)-60) + " bytes more"
	}
	return strconv.Quote(s)
}

// letters are n bytes that may all be in a name, unlike their neighbours.
func letters(n int) string { return strings.Repeat("abcdefghijklmnopqrstuvwxyz", n/26+1)[:n] }

// with is s with another byte at a place.
func with(s string, at int, c byte) string {
	p := []byte(s)
	p[at] = c
	return string(p)
}

// names are names of all kinds: such as may be, such as are too long, such as may not be, and both at once.
func names() []string {
	l := []string{
		"", "a", ".", "..", "...", " ", "\n", "\x01", "\x7f", "\x80", "\xff", "\xff \n", "\xc3\xa4", "\xe2\x82\xac", "\xf0\x9f\x98\x80", "\ufffd", "\\", ":", "a b\tc",
		"\x00", "/", "//", "a/", "/a", "a/b", "\x00a", "a\x00", "a\x00b", "\x00/", "a\x00\x00",
		"//////////////", "///////////////", strings.Repeat("\x00", 14), strings.Repeat("\x00", 15),
		strings.Repeat("\xff", 14), strings.Repeat("\xff", 15), strings.Repeat("\xe2\x82\xac", 5), "\xc3\xa4\xc3\xa4\xc3\xa4\xc3\xa4\xc3\xa4\xc3\xa4\xc3\xa4",
		letters(70000), letters(69999) + "/", letters(69999) + "\x00",
	}
	for n := 1; n <= 40; n++ {
		l = append(l, letters(n), with(letters(n), n-1, 0), with(letters(n), n-1, '/'))
	}
	return l
}
