package crc

import (
	"bytes"
	"hash/crc32"
	"math/rand/v2"
	"testing"
)

// slow is the sum as the chapter's words say it, bit by bit.
func slow(sum uint32, b []byte) uint32 {
	rest := sum ^ 4294967295
	for _, x := range b {
		rest ^= uint32(x)
		for range 8 {
			odd := rest&1 == 1
			rest >>= 1
			if odd {
				rest ^= 2197175160
			}
		}
	}
	return rest ^ 4294967295
}

func dice() *rand.Rand { return rand.New(rand.NewPCG(1, 32)) }

func row(r *rand.Rand, n int) []byte {
	b := make([]byte, n)
	for i := range b {
		b[i] = byte(r.Uint32())
	}
	return b
}

// some numbers of 32 bits, the edges among them.
func numbers(r *rand.Rand) []uint32 {
	l := []uint32{0, 1, 5, 255, 256, 2147483647, 2147483648, 4294967294, 4294967295}
	for range 100 {
		l = append(l, r.Uint32())
	}
	return l
}

// P1.1: the chapter's examples.
func TestExamples(t *testing.T) {
	if x := Sum([]byte("123456789")); x != 3808858755 {
		t.Errorf("the digits: %d", x)
	}
	if x := Sum(nil); x != 0 {
		t.Errorf("Sum of nil: %d", x)
	}
	if x := Sum([]byte{}); x != 0 {
		t.Errorf("Sum of none: %d", x)
	}
	if x := More(5, nil); x != 5 {
		t.Errorf("More(5, nil): %d", x)
	}
	if x := More(5, []byte{}); x != 5 {
		t.Errorf("More(5, none): %d", x)
	}
}

// P1.1: rows that RFC 3720 gives (its section B.4).
func TestRowsOfTheStandard(t *testing.T) {
	up, down := make([]byte, 32), make([]byte, 32)
	for i := range up {
		up[i], down[i] = byte(i), byte(31-i)
	}
	for _, c := range []struct {
		name string
		b    []byte
		want uint32
	}{
		{"noughts", make([]byte, 32), 0x8a9136aa},
		{"ones", bytes.Repeat([]byte{255}, 32), 0x62a8ab43},
		{"up", up, 0x46dd794e},
		{"down", down, 0x113fdb5c},
	} {
		if x := Sum(c.b); x != c.want {
			t.Errorf("%s: %x, want %x", c.name, x, c.want)
		}
	}
}

// P1.1: Sum is what the words say, for each byte by itself, and for rows of many lengths.
func TestSum(t *testing.T) {
	other := crc32.MakeTable(crc32.Castagnoli)
	check := func(b []byte) {
		t.Helper()
		x := Sum(b)
		if want := slow(0, b); x != want {
			t.Errorf("Sum(%v): %d, want %d", b, x, want)
		}
		if want := crc32.Checksum(b, other); x != want {
			t.Errorf("Sum(%v): %d, the library %d", b, x, want)
		}
	}
	for i := range 256 {
		check([]byte{byte(i)})
		check([]byte{0, byte(i), 0})
	}
	r := dice()
	for n := range 300 {
		check(row(r, n))
	}
	for _, n := range []int{1499, 1500, 1501, 65536, 1 << 20} {
		check(row(r, n))
	}
}

// P1.1: More goes on from any sum, whichever bytes it is of.
func TestMore(t *testing.T) {
	r := dice()
	for _, sum := range numbers(r) {
		if x := More(sum, nil); x != sum {
			t.Errorf("More(%d, nil): %d", sum, x)
		}
		for i := range 256 {
			if x, want := More(sum, []byte{byte(i)}), slow(sum, []byte{byte(i)}); x != want {
				t.Errorf("More(%d, %d): %d, want %d", sum, i, x, want)
			}
		}
		b := row(r, r.IntN(100))
		if x, want := More(sum, b), slow(sum, b); x != want {
			t.Errorf("More(%d, %v): %d, want %d", sum, b, x, want)
		}
	}
}

// P1.1: of rows that have one sum, More tells one sum too.
func TestMoreOfRowsAlike(t *testing.T) {
	r := dice()
	for range 100 {
		a, b, behind := row(r, r.IntN(20)), row(r, r.IntN(20)), row(r, r.IntN(20))
		b = append(b, backTo(Sum(b), Sum(a))...)
		if Sum(a) != Sum(b) {
			t.Fatalf("%v and %v were to be alike", a, b)
		}
		if More(Sum(a), behind) != Sum(append(b, behind...)) {
			t.Errorf("%v behind %v, and behind %v", behind, a, b)
		}
	}
}

// backTo has four bytes behind which the sum is want where it was sum: the bits are undone one by one.
func backTo(sum, want uint32) []byte {
	rest := ^want
	for range 32 {
		if rest>>31 == 1 {
			rest = (rest^2197175160)<<1 | 1
		} else {
			rest <<= 1
		}
	}
	rest ^= ^sum
	return []byte{byte(rest), byte(rest >> 8), byte(rest >> 16), byte(rest >> 24)}
}

// P1.1: what is handed in stays as it is, and a call hangs on its arguments alone.
func TestHandedIn(t *testing.T) {
	b := []byte("what is handed in")
	was := bytes.Clone(b)
	first := Sum(b)
	More(first, b)
	if !bytes.Equal(b, was) {
		t.Errorf("changed: %q", b)
	}
	b[0] = 'W'
	if Sum(b) == first || Sum(was) != first {
		t.Error("kept")
	}
	if Sum(b[:4]) != Sum([]byte("What")) {
		t.Error("bytes behind the row's end were looked at")
	}
}

// P1.2: bytes parted anywhere, in two, in three, and each by itself, nothing between them too.
func TestParted(t *testing.T) {
	b := row(dice(), 60)
	want := Sum(b)
	for i := 0; i <= len(b); i++ {
		first := Sum(b[:i])
		if x := More(first, b[i:]); x != want {
			t.Errorf("parted at %d: %d, want %d", i, x, want)
		}
		for j := i; j <= len(b); j++ {
			if x := More(More(first, b[i:j]), b[j:]); x != want {
				t.Errorf("parted at %d and %d: %d, want %d", i, j, x, want)
			}
		}
	}
	x := Sum(nil)
	for i := range b {
		x = More(More(x, nil), b[i:i+1])
	}
	if x != want {
		t.Errorf("each by itself: %d, want %d", x, want)
	}
}

// flip is the row with its k-th bit turned, of a byte the lowest one first.
func flip(b []byte, k int) []byte {
	b = bytes.Clone(b)
	b[k/8] ^= 1 << (k % 8)
	return b
}

// P1.2: rows that differ only within 32 bits. What turning a bit does to the sum is the same in all rows of that length,
// and turning several does what each of them does, turned by one another (TestTurned): so it is enough, for all rows and
// all ways to differ, that what 32 bits side by side do can't be turned to nothing by one another.
func TestWithin32Bits(t *testing.T) {
	lengths := []int{375, 1500}
	for n := 1; n <= 24; n++ {
		lengths = append(lengths, n)
	}
	for _, n := range lengths {
		b := make([]byte, n)
		sum := Sum(b)
		does := make([]uint32, 8*n)
		for k := range does {
			does[k] = Sum(flip(b, k)) ^ sum
		}
		for k := range does {
			if !independent(does[k:min(k+32, len(does))]) {
				t.Fatalf("%d bytes: some that differ within 32 bits from bit %d on have one sum", n, k)
			}
		}
	}
}

// independent: whether no choice of some of them is 0, turned by one another.
func independent(l []uint32) bool {
	var lead [32]uint32
	for _, x := range l {
		for i := 31; i >= 0 && x != 0; i-- {
			if x>>i&1 == 0 {
				continue
			}
			if lead[i] == 0 {
				lead[i] = x
				break
			}
			x ^= lead[i]
		}
		if x == 0 {
			return false
		}
	}
	return true
}

// P1.2: the same, of rows by chance, and of each way to differ in a byte and the next.
func TestWithin32BitsByChance(t *testing.T) {
	r := dice()
	for range 20000 {
		b := row(r, 4+r.IntN(60))
		c := bytes.Clone(b)
		at := r.IntN(8*len(b) - 31)
		ways := r.Uint32() | 1
		for i := range 32 {
			if ways>>i&1 == 1 {
				c = flip(c, at+i)
			}
		}
		if Sum(b) == Sum(c) {
			t.Fatalf("%v and %v have one sum", b, c)
		}
	}
	b := row(r, 12)
	sum := Sum(b)
	for at := range len(b) - 1 {
		for ways := 1; ways < 65536; ways++ {
			c := bytes.Clone(b)
			c[at] ^= byte(ways)
			c[at+1] ^= byte(ways >> 8)
			if Sum(c) == sum {
				t.Fatalf("%v and %v have one sum", b, c)
			}
		}
	}
}

// P1.2: of three rows of as many bytes, turned by one another.
func TestTurned(t *testing.T) {
	r := dice()
	for n := range 200 {
		a, b, c := row(r, n), row(r, n), row(r, n)
		all := make([]byte, n)
		for i := range all {
			all[i] = a[i] ^ b[i] ^ c[i]
		}
		if x, want := Sum(all), Sum(a)^Sum(b)^Sum(c); x != want {
			t.Errorf("of %d bytes: %d, want %d", n, x, want)
		}
	}
}
