package sip

import (
	"bytes"
	"math/rand/v2"
	"testing"

	"lanyard/api"
)

// slow is the sum as the chapter's words say it: the bytes laid side by side, filled up, and cut into words.
func slow(k api.Key, b []byte) uint64 {
	full := bytes.Clone(b)
	for len(full)%8 != 7 {
		full = append(full, 0)
	}
	full = append(full, byte(len(b)%256))
	read := func(l []byte) (w uint64) {
		for i := 7; i >= 0; i-- {
			w = w*256 + uint64(l[i])
		}
		return w
	}
	turned := func(x uint64, n int) uint64 {
		for range n {
			x = x*2 + x>>63
		}
		return x
	}
	k0, k1 := read(k[:8]), read(k[8:])
	a, b1, c, d := k0^8317987319222330741, k1^7237128888997146477, k0^7816392313619706465, k1^8387220255154660723
	round := func() {
		a = a + b1
		b1 = turned(b1, 13)
		b1 = b1 ^ a
		a = turned(a, 32)
		c = c + d
		d = turned(d, 16)
		d = d ^ c
		a = a + d
		d = turned(d, 21)
		d = d ^ a
		c = c + b1
		b1 = turned(b1, 17)
		b1 = b1 ^ c
		c = turned(c, 32)
	}
	for ; len(full) > 0; full = full[8:] {
		w := read(full)
		d ^= w
		round()
		round()
		a ^= w
	}
	c ^= 255
	for range 4 {
		round()
	}
	return a ^ b1 ^ c ^ d
}

func dice() *rand.Rand { return rand.New(rand.NewPCG(2, 64)) }

func row(r *rand.Rand, n int) []byte {
	b := make([]byte, n)
	for i := range b {
		b[i] = byte(r.Uint32())
	}
	return b
}

func key(r *rand.Rand) (k api.Key) {
	copy(k[:], row(r, len(k)))
	return k
}

// rising is 0, 1, 2, .. of that many bytes.
func rising(n int) []byte {
	b := make([]byte, n)
	for i := range b {
		b[i] = byte(i)
	}
	return b
}

// papersKey is the key of the paper's rows.
func papersKey() api.Key { return api.Key(rising(16)) }

// P2.1: the chapter's examples.
func TestExamples(t *testing.T) {
	k := papersKey()
	if x := Of(k); x != 0x726fdb47dd0e0e31 {
		t.Errorf("none: %x", x)
	}
	if x := Of(k, rising(15)); x != 0xa129ca6149be45e5 {
		t.Errorf("0 to 14: %x", x)
	}
}

// P2.1: the first rows that the paper's authors give, of 0, 1, .. under the key 0, 1, .. 15: none left, and one to seven left.
func TestRowsOfThePaper(t *testing.T) {
	for n, want := range []uint64{
		0x726fdb47dd0e0e31, 0x74f839c593dc67fd, 0x0d6c8009d9a94f5a, 0x85676696d7fb7e2d,
		0xcf2794e0277187b7, 0x18765564cd99a68d, 0xcbc9466e58fee3ce, 0xab0200f58b01d137,
		0x93f5f5799a932462, 0x9e0082df0ba9e4b0, 0x7a5dbbc594ddb9f3, 0xf4b32f46226bada7,
		0x751e8fbc860ee5fb, 0x14ea5627c0843d90, 0xf723ca908e7af2ee, 0xa129ca6149be45e5,
	} {
		if x := Of(papersKey(), rising(n)); x != want {
			t.Errorf("%d bytes: %x, want %x", n, x, want)
		}
	}
}

// P2.1: Of is what the words say, of each length up to where its number goes round, and of great ones.
func TestOf(t *testing.T) {
	r := dice()
	check := func(b []byte) {
		t.Helper()
		k := key(r)
		if x, want := Of(k, b), slow(k, b); x != want {
			t.Errorf("%d bytes: %x, want %x", len(b), x, want)
		}
	}
	for n := range 600 {
		check(row(r, n))
		check(make([]byte, n))
		check(bytes.Repeat([]byte{255}, n))
	}
	for _, n := range []int{1500, 65535, 65536, 65537, 1 << 20} {
		check(row(r, n))
	}
	for i := range 256 {
		check([]byte{byte(i)})
	}
}

// P2.1: keys at their edges, and each of a key's bits, matter as the words say.
func TestKeys(t *testing.T) {
	b := rising(21)
	seen := map[uint64]bool{}
	check := func(k api.Key) {
		t.Helper()
		x := Of(k, b)
		if want := slow(k, b); x != want {
			t.Errorf("under %v: %x, want %x", k, x, want)
		}
		if seen[x] {
			t.Errorf("under %v: a sum that another key has too", k)
		}
		seen[x] = true
	}
	check(api.Key{})
	check(api.Key(bytes.Repeat([]byte{255}, 16)))
	for bit := range 128 {
		var k api.Key
		k[bit/8] = 1 << (bit % 8)
		check(k)
	}
}

// P2.1: noughts behind are bytes too, and so are those ahead; whole rounds of 256 bytes more are not the same either.
func TestNoughtsMatter(t *testing.T) {
	k := papersKey()
	seen := map[uint64]int{}
	for n := range 1025 {
		x := Of(k, make([]byte, n))
		if m, is := seen[x]; is {
			t.Errorf("%d and %d noughts have one sum", m, n)
		}
		seen[x] = n
	}
}

// P2.1: parts go one behind the other, in their order.
func TestOrderOfParts(t *testing.T) {
	k := papersKey()
	a, b, c := []byte("one part"), []byte("and two"), []byte("and the third one")
	if x, want := Of(k, a, b, c), slow(k, []byte("one partand twoand the third one")); x != want {
		t.Errorf("%x, want %x", x, want)
	}
	if x, want := Of(k, c, a, b), slow(k, []byte("and the third oneone partand two")); x != want {
		t.Errorf("%x, want %x", x, want)
	}
	if Of(k, a, b, c) == Of(k, c, a, b) || Of(k, a, a) == Of(k, a) {
		t.Error("parts in another order, or one twice, have one sum")
	}
}

// P2.2: no bytes are no bytes, in however many parts.
func TestPartsOfNothing(t *testing.T) {
	k := papersKey()
	none := Of(k)
	for _, parts := range [][][]byte{nil, {}, {nil}, {{}}, {nil, nil}, {nil, {}, nil, {}}, make([][]byte, 300)} {
		if x := Of(k, parts...); x != none {
			t.Errorf("%d parts of nothing: %x, want %x", len(parts), x, none)
		}
	}
	b := rising(15)
	want := Of(k, b)
	for i := 0; i <= len(b); i++ {
		for _, parts := range [][][]byte{
			{b[:i], nil, b[i:]}, {b[:i], {}, b[i:]}, {nil, b[:i], b[i:]}, {b[:i], b[i:], nil}, {{}, b[:i], nil, {}, b[i:], {}},
		} {
			if x := Of(k, parts...); x != want {
				t.Errorf("parted at %d, with nothing between: %x, want %x", i, x, want)
			}
		}
	}
}

// P2.2: rows parted anywhere in two and in three, each byte by itself, and in parts by chance.
func TestParted(t *testing.T) {
	r := dice()
	for _, n := range []int{1, 7, 8, 9, 15, 16, 17, 24, 31, 40, 259} {
		k, b := key(r), row(r, n)
		want := slow(k, b)
		check := func(parts ...[]byte) {
			t.Helper()
			if x := Of(k, parts...); x != want {
				t.Errorf("%d bytes in %d parts: %x, want %x", n, len(parts), x, want)
			}
		}
		var each [][]byte
		for i := range b {
			each = append(each, b[i:i+1])
		}
		check(each...)
		for i := 0; i <= n; i++ {
			check(b[:i], b[i:])
			for j := i; j <= n; j++ {
				check(b[:i], b[i:j], b[j:])
			}
		}
		for range 50 {
			check(cut(r, b)...)
		}
	}
}

// cut parts the row by chance, some of the parts with nothing.
func cut(r *rand.Rand, b []byte) [][]byte {
	var parts [][]byte
	for len(b) > 0 {
		n := r.IntN(min(len(b), 20) + 1)
		parts = append(parts, b[:n])
		b = b[n:]
	}
	return parts
}

// P2.2: what is handed in stays as it is: the parts' bytes, what lies behind them, and the list of parts.
func TestHandedIn(t *testing.T) {
	k := papersKey()
	b := rising(64)
	parts := [][]byte{b[:3], nil, b[10:21], b[21:30]}
	want := slow(k, append(append(append([]byte(nil), b[:3]...), b[10:21]...), b[21:30]...))
	if x := Of(k, parts...); x != want {
		t.Errorf("%x, want %x", x, want)
	}
	if !bytes.Equal(b, rising(64)) {
		t.Errorf("the bytes are changed: %v", b)
	}
	if k != papersKey() {
		t.Errorf("the key is changed: %v", k)
	}
	if len(parts) != 4 || parts[1] != nil || &parts[0][0] != &b[0] || &parts[2][0] != &b[10] || &parts[3][0] != &b[21] ||
		len(parts[0]) != 3 || len(parts[2]) != 11 || len(parts[3]) != 9 {
		t.Errorf("the parts are changed: %v", parts)
	}
}

// P2.2: nothing is kept: the same call answers the same, whatever was asked between, and a changed row is asked anew.
func TestNothingKept(t *testing.T) {
	r := dice()
	k, b := key(r), row(r, 30)
	first := Of(k, b)
	Of(key(r), row(r, 13))
	if Of(k, b) != first {
		t.Error("another answer to the same call")
	}
	if x, want := Of(k, b, b), slow(k, append(bytes.Clone(b), b...)); x != want {
		t.Errorf("one row as two parts: %x, want %x", x, want)
	}
	b[29] ^= 128
	if x, want := Of(k, b), slow(k, b); x != want || x == first {
		t.Errorf("of the changed row: %x, want %x", x, want)
	}
}
