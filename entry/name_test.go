package entry_test

import (
	"math/rand"
	"strings"
	"testing"

	"undercroft/api"
	"undercroft/entry"
)

// P18.1, the chapter's examples.
func TestNameExamples(t *testing.T) {
	for _, c := range []struct {
		s    string
		want api.Errno
	}{
		{"a", api.OK},
		{"abcdefghijklmn", api.OK},
		{"abcdefghijklmno", api.ErrName},
		{"", api.ErrInval},
		{"a/b", api.ErrInval},
		{"a\x00", api.ErrInval},
		{"..", api.OK},
		{"///////////////", api.ErrInval},
	} {
		if err := entry.Name(c.s); err != c.want {
			t.Errorf("Name(%q): %d, want %d", c.s, err, c.want)
		}
	}
}

// P18.1: how long a name may be, and that it is bytes that are counted and not letters.
func TestNameLengths(t *testing.T) {
	for n := range 300 {
		want := api.OK
		switch {
		case n == 0:
			want = api.ErrInval
		case n > 14:
			want = api.ErrName
		}
		for _, c := range []string{"a", ".", " ", "\x01", "\x80", "\xff"} {
			if err := entry.Name(strings.Repeat(c, n)); err != want {
				t.Errorf("Name of %d times %q: %d, want %d", n, c, err, want)
			}
		}
	}
	for _, n := range []int{1023, 1024, 1025, 65535, 65536, 65550, 1 << 24} {
		if err := entry.Name(letters(n)); err != api.ErrName {
			t.Errorf("Name of %d bytes: %d", n, err)
		}
	}
	// Seven letters of two bytes are 14 bytes, eight of them 16; five of three bytes are 15, four of four 16.
	for s, want := range map[string]api.Errno{
		strings.Repeat("\u00e4", 7): api.OK, strings.Repeat("\u00e4", 8): api.ErrName,
		strings.Repeat("\u20ac", 4): api.OK, strings.Repeat("\u20ac", 5): api.ErrName,
		strings.Repeat("\U0001f600", 3): api.OK, strings.Repeat("\U0001f600", 4): api.ErrName,
	} {
		if err := entry.Name(s); err != want {
			t.Errorf("Name(%q): %d, want %d", s, err, want)
		}
	}
}

// P18.1: every byte, at every place of names of up to 30 bytes: 0 and the stroke are ErrInval wherever they stand, ahead of and behind the fourteenth byte, and no other is.
func TestNameBytes(t *testing.T) {
	for n := 1; n <= 30; n++ {
		for at := range n {
			for c := range 256 {
				want := api.OK
				switch {
				case c == 0 || c == '/':
					want = api.ErrInval
				case n > 14:
					want = api.ErrName
				}
				s := with(letters(n), at, byte(c))
				if err := entry.Name(s); err != want {
					t.Errorf("Name(%q): %d, want %d", s, err, want)
				}
			}
		}
	}
}

// P18.1: ErrInval ahead of ErrName, in names of very many bytes too.
func TestNameOrder(t *testing.T) {
	const long = 100000
	for _, at := range []int{0, 1, 12, 13, 14, 15, 16, 17, 63, 64, 255, 256, 1023, 1024, 65535, 65536, long - 2, long - 1} {
		for _, c := range []byte{0, '/'} {
			if err := entry.Name(with(letters(long), at, c)); err != api.ErrInval {
				t.Errorf("Name with the byte %d at %d: %d", c, at, err)
			}
		}
	}
	s := letters(1<<24) + "/"
	if err := entry.Name(s); err != api.ErrInval {
		t.Errorf("Name of %d bytes with a stroke behind them: %d", 1<<24, err)
	}
	if err := entry.Name(s[:1<<24]); err != api.ErrName {
		t.Errorf("Name of %d bytes: %d", 1<<24, err)
	}
}

// P18.1: bytes that are no letters in UTF-8, and letters whose number has the stroke's or the nought's in its lowest byte, are bytes as others.
func TestNameNoLetters(t *testing.T) {
	for _, s := range []string{"\u012f", "\u2f2f", "\u0100", "\uff0f", "\u2215", "\u2044", "\ufffd", "\xc0\xaf", "\xc0\x80", "\xe0\x80\xaf", "\xed\xa0\x80", "\x80\x80", "\xfe\xff", "\xf8\x88\x80\x80\xaf", "\xc3", "\xaf"} {
		if err := entry.Name(s); err != api.OK {
			t.Errorf("Name(%q): %d", s, err)
		}
		if err := entry.Name(s + "/"); err != api.ErrInval {
			t.Errorf("Name(%q): %d", s+"/", err)
		}
		if err := entry.Name(s + "\x00"); err != api.ErrInval {
			t.Errorf("Name(%q): %d", s+"\x00", err)
		}
	}
}

// P18.1: names of all kinds, every name of up to five bytes out of a few, and names of any bytes, held against the account.
func TestNameMany(t *testing.T) {
	for _, s := range names() {
		holdName(t, s)
	}
	few := []byte{0, '/', '.', 'a', 0xff}
	count := 1
	for n := range 6 {
		for k := range count {
			p := make([]byte, n)
			for i, rest := 0, k; i < n; i++ {
				p[i] = few[rest%len(few)]
				rest /= len(few)
			}
			// By itself, and moved to the bound on how long a name may be and behind it.
			for _, ahead := range []int{0, 9, 10, 12, 13, 14, 15} {
				holdName(t, letters(ahead)+string(p))
			}
		}
		count *= len(few)
	}
	draw := rand.New(rand.NewSource(181))
	for range 100000 {
		p := make([]byte, draw.Intn(20))
		for i := range p {
			p[i] = byte(draw.Intn(256))
		}
		holdName(t, string(p))
	}
}
