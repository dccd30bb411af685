package entry_test

import (
	"testing"

	"undercroft/api"
	"undercroft/entry"
)

// numbers are inode numbers at and about the ends of their bytes, 0 being a free slot's.
var numbers = []uint16{0, 1, 2, 3, 47, 127, 128, 254, 255, 256, 257, 258, 511, 512, 0x1234, 0x2f00, 0x2f2f, 32767, 32768, 65279, 65280, 65534, 65535}

// P18.2, the chapter's examples.
func TestEncodeExamples(t *testing.T) {
	for _, c := range []struct {
		e    api.Entry
		b    entry.Bytes
		want api.Errno
	}{
		{api.Entry{Inum: 258, Name: "ab"}, entry.Bytes{2, 1, 'a', 'b', 0, 0, 0, 0, 0, 0, 0, 0, 0, 0, 0, 0}, api.OK},
		{api.Entry{}, entry.Bytes{}, api.OK},
		{api.Entry{Name: "x"}, entry.Bytes{}, api.ErrInval},
		{api.Entry{Inum: 3}, entry.Bytes{}, api.ErrInval},
	} {
		if b, err := entry.Encode(c.e); b != c.b || err != c.want {
			t.Errorf("Encode(%d %q): %v, %d, want %v, %d", c.e.Inum, c.e.Name, b, err, c.b, c.want)
		}
	}
}

// P18.3, the chapter's examples.
func TestDecodeExamples(t *testing.T) {
	for _, b := range []entry.Bytes{
		{2, 0, 'a', 0, 'b'}, // a byte behind the name's end
		{0, 0, 'a'},         // a free slot with a name
		{5, 0},              // no name
	} {
		if e, err := entry.Decode(b); e != (api.Entry{}) || err != api.ErrInval {
			t.Errorf("Decode(%v): %d %q, %d", b, e.Inum, e.Name, err)
		}
	}
	for _, c := range []struct {
		b    entry.Bytes
		want api.Entry
	}{
		{entry.Bytes{2, 1, 'a', 'b'}, api.Entry{Inum: 258, Name: "ab"}},
		{entry.Bytes{}, api.Entry{}},
		{entry.Bytes{255, 255, 'a', 'b', 'c', 'd', 'e', 'f', 'g', 'h', 'i', 'j', 'k', 'l', 'm', 'n'}, api.Entry{Inum: 65535, Name: "abcdefghijklmn"}},
	} {
		if e, err := entry.Decode(c.b); e != c.want || err != api.OK {
			t.Errorf("Decode(%v): %d %q, %d", c.b, e.Inum, e.Name, err)
		}
	}
}

// P18.2: an entry has the bytes of the layout: the root's first two, as a new file system has them.
func TestRootEntries(t *testing.T) {
	for _, c := range []struct {
		name string
		want entry.Bytes
	}{
		{".", entry.Bytes{1, 0, '.'}},
		{"..", entry.Bytes{1, 0, '.', '.'}},
	} {
		if b, err := entry.Encode(api.Entry{Inum: api.Root, Name: c.name}); b != c.want || err != api.OK {
			t.Errorf("Encode(1 %q): %v, %d", c.name, b, err)
		}
	}
}

// P18.2: a free slot has no name, whatever that name would be: a name that is too long is ErrInval there and not ErrName.
func TestEncodeFree(t *testing.T) {
	for _, s := range names() {
		want := api.ErrInval
		if s == "" {
			want = api.OK
		}
		if b, err := entry.Encode(api.Entry{Name: s}); b != (entry.Bytes{}) || err != want {
			t.Errorf("Encode(0 %s): %v, %d, want %d", short(s), b, err, want)
		}
	}
}

// P18.2: each kind of name with each number: Name's error, with noughts beside it, or the number, the name, and noughts up to the end.
func TestEncodeEach(t *testing.T) {
	for _, inum := range numbers {
		for _, s := range names() {
			e := api.Entry{Inum: inum, Name: s}
			holdEntry(t, e)
			b, err := entry.Encode(e)
			if inum != 0 && err != entry.Name(s) {
				t.Errorf("Encode(%d %s): %d, and Name says %d", inum, short(s), err, entry.Name(s))
			}
			if err != api.OK && b != (entry.Bytes{}) {
				t.Errorf("Encode(%d %s): %v beside %d", inum, short(s), b, err)
			}
		}
	}
}

// P18.2: every number, little-endian, with the shortest name and the longest.
func TestEncodeNumbers(t *testing.T) {
	for i := range 65536 {
		inum := uint16(i)
		for _, n := range []int{0, 1, 14, 15} {
			holdEntry(t, api.Entry{Inum: inum, Name: letters(n)})
		}
		want := api.OK
		if i == 0 {
			want = api.ErrInval
		}
		b, err := entry.Encode(api.Entry{Inum: inum, Name: "a"})
		if err != want || int(b[0])+256*int(b[1]) != i {
			t.Errorf("Encode(%d a): %v, %d", i, b, err)
		}
	}
}

// P18.2, P18.4: every byte at every place of a name of each length stands behind the number where it stands in the name.
func TestEncodeNameBytes(t *testing.T) {
	for n := 1; n <= 16; n++ {
		for at := range n {
			for c := range 256 {
				holdEntry(t, api.Entry{Inum: 0x2f2f, Name: with(letters(n), at, byte(c))})
			}
		}
	}
}

// P18.3: of bytes that Encode answers, each changed at every place to every other byte.
func TestDecodeChanged(t *testing.T) {
	for _, e := range []api.Entry{
		{},
		{Inum: 1, Name: "."}, {Inum: 1, Name: ".."}, {Inum: 255, Name: "a"}, {Inum: 256, Name: "ab"}, {Inum: 258, Name: "\xff\x80"},
		{Inum: 2, Name: letters(7)}, {Inum: 65535, Name: letters(13)}, {Inum: 1, Name: letters(14)}, {Inum: 256, Name: letters(14)}, {Inum: 65535, Name: letters(14)},
	} {
		b, err := entry.Encode(e)
		if err != api.OK {
			t.Fatalf("Encode(%d %q): %d", e.Inum, e.Name, err)
		}
		holdBytes(t, b)
		for at := range b {
			for c := range 256 {
				other := b
				other[at] = byte(c)
				holdBytes(t, other)
				back, err := entry.Decode(other)
				if err != api.OK && back != (api.Entry{}) {
					t.Errorf("Decode(%v): %d %q beside %d", other, back.Inum, back.Name, err)
				}
				// P18.4: unlike bytes are unlike entries.
				if err == api.OK && (back == e) != (other == b) {
					t.Errorf("Decode(%v) and of %v: both %d %q", other, b, e.Inum, e.Name)
				}
			}
		}
	}
}

// P18.3: a free slot is sixteen noughts and nothing else: with any other byte at any place of its name it is refused.
func TestDecodeFree(t *testing.T) {
	if e, err := entry.Decode(entry.Bytes{}); e != (api.Entry{}) || err != api.OK {
		t.Errorf("Decode of noughts: %d %q, %d", e.Inum, e.Name, err)
	}
	for at := 2; at < 16; at++ {
		for c := 1; c < 256; c++ {
			var b entry.Bytes
			b[at] = byte(c)
			if e, err := entry.Decode(b); e != (api.Entry{}) || err != api.ErrInval {
				t.Errorf("Decode(%v): %d %q, %d", b, e.Inum, e.Name, err)
			}
		}
	}
	for n := 1; n <= 14; n++ {
		var b entry.Bytes
		copy(b[2:], letters(n))
		if e, err := entry.Decode(b); e != (api.Entry{}) || err != api.ErrInval {
			t.Errorf("Decode(%v): %d %q, %d", b, e.Inum, e.Name, err)
		}
	}
}

// P18.3: a number without a name is refused, also if bytes follow behind the nought that stands at the name's beginning.
func TestDecodeNoName(t *testing.T) {
	for inum := 1; inum < 65536; inum++ {
		b := entry.Bytes{byte(inum), byte(inum >> 8)}
		if e, err := entry.Decode(b); e != (api.Entry{}) || err != api.ErrInval {
			t.Errorf("Decode(%v): %d %q, %d", b, e.Inum, e.Name, err)
		}
	}
	for at := 3; at < 16; at++ {
		b := entry.Bytes{0: 5}
		b[at] = 'a'
		if e, err := entry.Decode(b); e != (api.Entry{}) || err != api.ErrInval {
			t.Errorf("Decode(%v): %d %q, %d", b, e.Inum, e.Name, err)
		}
	}
}

// P18.3: a name ends at its first nought: any byte at any place behind that is refused.
func TestDecodeBehindTheEnd(t *testing.T) {
	for n := 1; n < 14; n++ {
		b := entry.Bytes{0: 7}
		copy(b[2:], letters(n))
		holdBytes(t, b)
		for at := 2 + n + 1; at < 16; at++ {
			for c := 1; c < 256; c++ {
				other := b
				other[at] = byte(c)
				if e, err := entry.Decode(other); e != (api.Entry{}) || err != api.ErrInval {
					t.Errorf("Decode(%v): %d %q, %d", other, e.Inum, e.Name, err)
				}
			}
		}
	}
}

// P18.3: a stroke anywhere in a name is refused; one that stands in the number is a number as others.
func TestDecodeStroke(t *testing.T) {
	for n := 1; n <= 14; n++ {
		for at := range n {
			b := entry.Bytes{0: 7}
			copy(b[2:], with(letters(n), at, '/'))
			if e, err := entry.Decode(b); e != (api.Entry{}) || err != api.ErrInval {
				t.Errorf("Decode(%v): %d %q, %d", b, e.Inum, e.Name, err)
			}
		}
	}
	if e, err := entry.Decode(entry.Bytes{'/', '/', 'a'}); e != (api.Entry{Inum: 0x2f2f, Name: "a"}) || err != api.OK {
		t.Errorf("Decode of the number 2f2f: %d %q, %d", e.Inum, e.Name, err)
	}
	if e, err := entry.Decode(entry.Bytes{0, 1, 'a'}); e != (api.Entry{Inum: 256, Name: "a"}) || err != api.OK {
		t.Errorf("Decode of the number 256: %d %q, %d", e.Inum, e.Name, err)
	}
}

// P18.3: a name of all fourteen bytes has no nought behind it.
func TestDecodeLongestName(t *testing.T) {
	for c := 1; c < 256; c++ {
		b := entry.Bytes{0: 9}
		for i := 2; i < 16; i++ {
			b[i] = byte(c)
		}
		want, wantErr := api.Entry{Inum: 9, Name: string(b[2:])}, api.OK
		if c == '/' {
			want, wantErr = api.Entry{}, api.ErrInval
		}
		if e, err := entry.Decode(b); e != want || err != wantErr {
			t.Errorf("Decode(%v): %d %q, %d", b, e.Inum, e.Name, err)
		}
	}
}

// Rule 3: what is answered stays as it was, whatever is called later and whatever becomes of the bytes that were handed in.
func TestAnswersStay(t *testing.T) {
	b := entry.Bytes{2, 1, 'a', 'b'}
	e, err := entry.Decode(b)
	first, _ := entry.Encode(e)
	for i := range b {
		b[i] = 'x'
	}
	entry.Decode(b)
	second, _ := entry.Encode(api.Entry{Inum: 65535, Name: letters(14)})
	second[2] = 'z'
	if e != (api.Entry{Inum: 258, Name: "ab"}) || err != api.OK {
		t.Errorf("what Decode told became %d %q, %d", e.Inum, e.Name, err)
	}
	if first != (entry.Bytes{2, 1, 'a', 'b'}) {
		t.Errorf("what Encode answered became %v", first)
	}
	if again, _ := entry.Encode(api.Entry{Inum: 65535, Name: letters(14)}); again[2] != 'a' {
		t.Errorf("Encode answers what somebody wrote into its answer: %v", again)
	}
}
