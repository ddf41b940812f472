package sum

import (
	"bytes"
	"crypto/sha256"
	"encoding/hex"
	"hash/crc32"
	"math"
	"strings"
	"testing"

	"shunt/api"
)

// some tells n bytes, all kinds of them.
func some(n int) []byte {
	b := make([]byte, n)
	x := uint32(n) + 1
	for i := range b {
		x = x*1664525 + 1013904223
		b[i] = byte(x >> 24)
	}
	return b
}

// sizes are all short lengths, and some about the ends of the 64 bytes that are mixed at one time, up to long ones.
func sizes() []int {
	var l []int
	for n := range 300 {
		l = append(l, n)
	}
	return append(l, 511, 512, 513, 4095, 8191, 8192, 8193, 65535, 65536, 65599, 1<<20+7)
}

// wide are lists of which all bytes are one.
func wide() [][]byte {
	var l [][]byte
	for _, x := range []string{"\x00", "\x01", "\x7f", "\x80", "\xff"} {
		for _, n := range []int{1, 2, 3, 4, 63, 64, 65, 1000} {
			l = append(l, []byte(strings.Repeat(x, n)))
		}
	}
	return l
}

func TestP201CRC(t *testing.T) {
	for _, x := range []struct {
		s   string
		crc int
	}{
		{"", 0}, {"123456789", 0xCBF43926}, {"\x00", 0xD202EF8D}, {"\xff", 0xFF000000}, {"\xff\xff\xff\xff", 0xFFFFFFFF},
		{"\x00\x00\x00\x00", 0x2144DF1C}, {"a", 0xE8B7BE43}, {"The quick brown fox jumps over the lazy dog", 0x414FA339},
	} {
		if got := CRC([]byte(x.s)); got != x.crc {
			t.Errorf("CRC(%q): %#x; want %#x", x.s, got, x.crc)
		}
	}
	if CRC(nil) != 0 || CRC([]byte{}) != 0 {
		t.Errorf("CRC of none: %#x, %#x", CRC(nil), CRC([]byte{}))
	}
}

func TestP201Lists(t *testing.T) {
	check := func(b []byte) {
		t.Helper()
		if got, want := CRC(b), int(int64(crc32.ChecksumIEEE(b))); got != want {
			t.Errorf("CRC of %d bytes: %#x; want %#x", len(b), got, want)
		}
	}
	for _, n := range sizes() {
		check(some(n))
	}
	for _, b := range wide() {
		check(b)
	}
	for x := range 256 {
		check([]byte{byte(x)})
		check([]byte{1, byte(x), 0})
	}
}

func TestP202Parts(t *testing.T) {
	b := some(200)
	all := CRC(b)
	for i := range len(b) + 1 {
		if got := More(CRC(b[:i]), b[i:]); got != all {
			t.Errorf("More behind %d bytes: %#x; want %#x", i, got, all)
		}
		if got := More(0, b[:i]); got != CRC(b[:i]) {
			t.Errorf("More(0, %d bytes): %#x; want %#x", i, got, CRC(b[:i]))
		}
		if got := More(CRC(b[:i]), nil); got != CRC(b[:i]) {
			t.Errorf("More with none behind %d bytes: %#x; want %#x", i, got, CRC(b[:i]))
		}
	}
	crc := 0
	for i := range b {
		crc = More(crc, b[i:i+1])
	}
	if crc != all {
		t.Errorf("More, byte by byte: %#x; want %#x", crc, all)
	}
	if got := More(CRC([]byte("1234")), []byte("56789")); got != 0xCBF43926 {
		t.Errorf("the example: %#x", got)
	}
}

func TestP202LowerBits(t *testing.T) {
	b := []byte("behind")
	for _, crc := range []int{0, 1, 0x7FFFFFFF, 0x80000000, 0xCBF43926, 0xFFFFFFFF} {
		want := int(int64(crc32.Update(uint32(crc), crc32.IEEETable, b)))
		for _, more := range []int{0, 1 << 32, 5 << 32, 1 << 62, -1 << 32, -1 << 63} {
			if got := More(crc+more, b); got != want {
				t.Errorf("More(%#x): %#x; want %#x", crc+more, got, want)
			}
			if got := More(crc+more, nil); got != crc {
				t.Errorf("More(%#x) with none: %#x; want %#x", crc+more, got, crc)
			}
		}
	}
	for _, crc := range []int{-1, math.MinInt, math.MaxInt, -0xCBF43926} {
		if got, want := More(crc, b), int(int64(crc32.Update(uint32(uint64(crc)), crc32.IEEETable, b))); got != want {
			t.Errorf("More(%d): %#x; want %#x", crc, got, want)
		}
	}
}

func TestP203SHA(t *testing.T) {
	for s, want := range map[string]string{
		"":    "e3b0c44298fc1c149afbf4c8996fb92427ae41e4649b934ca495991b7852b855",
		"abc": "ba7816bf8f01cfea414140de5dae2223b00361a396177a9cb410ff61f20015ad",
		"abcdbcdecdefdefgefghfghighijhijkijkljklmklmnlmnomnopnopq": "248d6a61d20638b8e5c026930c3e6039a33ce45964ff2167f6ecedd419db06c1",
		strings.Repeat("a", 1000000):                               "cdc76e5c9914fb9281a1c7e284d73e67f1809a48a497200e046d39ccc7112cd0",
	} {
		d := SHA([]byte(s))
		if got := hex.EncodeToString(d[:]); got != want {
			t.Errorf("SHA of %d bytes: %s; want %s", len(s), got, want)
		}
	}
	if SHA(nil) != SHA([]byte{}) {
		t.Error("SHA of nil is not that of no bytes")
	}
}

func TestP203Lists(t *testing.T) {
	check := func(b []byte) {
		t.Helper()
		if got, want := SHA(b), api.Digest(sha256.Sum256(b)); got != want {
			t.Errorf("SHA of %d bytes: %x; want %x", len(b), got, want)
		}
	}
	for _, n := range sizes() {
		check(some(n))
	}
	for _, b := range wide() {
		check(b)
	}
}

// TestP203Length: how many bits there were stands in 8 bytes, also where there are more than any test could add.
func TestP203Length(t *testing.T) {
	for size, want := range map[int]string{
		0: "0000000000000000", 31: "00000000000000f8", 32: "0000000000000100", 1<<29 - 1: "00000000fffffff8",
		1 << 29: "0000000100000000", 1<<31 - 1: "00000003fffffff8", 0x0102030405060708: "0810182028303840",
	} {
		b := tail(size)
		if got := hex.EncodeToString(b[len(b)-8:]); got != want || (size+len(b))%64 != 0 || len(b) > 72 || b[0] != 0x80 {
			t.Errorf("tail of %d bytes: %x; want %s at its end", size, b, want)
		}
	}
}

// told checks what a Hash tells, which has these bytes.
func told(t *testing.T, what string, h *Hash, b []byte) {
	t.Helper()
	if got, want := h.Sum(), api.Digest(sha256.Sum256(b)); got != want {
		t.Errorf("%s: Sum of %d bytes: %x; want %x", what, len(b), got, want)
	}
	if h.Size() != len(b) {
		t.Errorf("%s: Size: %d; want %d", what, h.Size(), len(b))
	}
}

func TestP204New(t *testing.T) {
	h := New()
	told(t, "new", h, nil)
	h.Add(nil)
	h.Add([]byte{})
	told(t, "new, none added", h, nil)
	h.Add([]byte("abc"))
	h.Add(nil)
	told(t, "none behind", h, []byte("abc"))
}

func TestP204Parts(t *testing.T) {
	b := some(1000)
	for i := 0; i <= 260; i++ {
		h := New()
		h.Add(b[:i])
		h.Add(b[i:260])
		told(t, "two parts", h, b[:260])
	}
	for step := 1; step < 200; step++ {
		h := New()
		for i := 0; i < len(b); i += step {
			h.Add(b[i:min(i+step, len(b))])
		}
		told(t, "parts of one length", h, b)
	}
	h := New()
	at := 0
	for n := 0; at+n <= len(b); n++ {
		h.Add(b[at : at+n])
		at += n
		told(t, "growing parts", h, b[:at])
	}
}

func TestP204SumStays(t *testing.T) {
	b := some(150)
	h := New()
	for i := range b {
		first, second := h.Sum(), h.Sum()
		if first != second {
			t.Fatalf("the second Sum of %d bytes is another one", i)
		}
		told(t, "byte by byte", h, b[:i])
		h.Add(b[i : i+1])
	}
	told(t, "at the end", h, b)
}

func TestP204Apart(t *testing.T) {
	a, b := New(), New()
	bytesA, bytesB := some(300), some(301)
	for i := 0; i < 300; i += 10 {
		a.Add(bytesA[i : i+10])
		told(t, "the first one", a, bytesA[:i+10])
		told(t, "the second one", b, bytesB[:i])
		b.Add(bytesB[i : i+10])
		told(t, "the first one, still", a, bytesA[:i+10])
	}
	c := *a
	c.Add([]byte("more"))
	told(t, "one that was copied", a, bytesA)
	told(t, "its copy", &c, append(bytes.Clone(bytesA), "more"...))
}

func TestP204Nothing(t *testing.T) {
	var none *Hash
	none.Add([]byte("abc"))
	told(t, "nil", none, nil)
	var zero Hash
	told(t, "zero", &zero, nil)
	zero.Add([]byte("abc"))
	told(t, "zero, with bytes", &zero, []byte("abc"))
}

func TestP205Stays(t *testing.T) {
	room := some(400)
	was := bytes.Clone(room)
	for _, n := range []int{0, 1, 55, 56, 63, 64, 65, 128, 200} {
		b := room[10 : 10+n]
		CRC(b)
		More(77, b)
		SHA(b)
		h := New()
		h.Add(b)
		h.Sum()
		if !bytes.Equal(room, was) {
			t.Fatalf("%d bytes that were handed in, or their spare room, were changed", n)
		}
	}
}

func TestP205NotKept(t *testing.T) {
	for _, n := range []int{1, 63, 64, 65, 130} {
		b := some(n)
		was := bytes.Clone(b)
		h := New()
		h.Add(b)
		clear(b)
		told(t, "bytes that were cleared behind Add", h, was)
		d := h.Sum()
		clear(d[:])
		told(t, "a digest that was cleared", h, was)
	}
}

func TestP205Again(t *testing.T) {
	b := some(500)
	crc, more, sha := CRC(b), More(9, b), SHA(b)
	for n := range 100 {
		h := New()
		h.Add(some(n))
		CRC(some(n))
		if CRC(b) != crc || More(9, b) != more || SHA(b) != sha {
			t.Fatalf("other answers behind %d rounds", n)
		}
	}
}
