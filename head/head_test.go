package head

import (
	"bytes"
	"hash/crc32"
	"math/rand/v2"
	"testing"

	"lanyard/api"
)

func dice() *rand.Rand { return rand.New(rand.NewPCG(3, 12)) }

func row(r *rand.Rand, n int) []byte {
	b := make([]byte, n)
	for i := range b {
		b[i] = byte(r.Uint32())
	}
	return b
}

func header(r *rand.Rand) api.Header {
	return api.Header{From: uint16(r.Uint32()), To: uint16(r.Uint32()), Tag: r.Uint32()}
}

// headers: numbers at their edges, each bit by itself, and some by chance.
func headers() []api.Header {
	l := []api.Header{{}, {From: 65535}, {To: 65535}, {Tag: 4294967295}, {From: 65535, To: 65535, Tag: 4294967295}, {From: 1, To: 2, Tag: 3}}
	for bit := range 16 {
		l = append(l, api.Header{From: 1 << bit}, api.Header{To: 1 << bit})
	}
	for bit := range 32 {
		l = append(l, api.Header{Tag: 1 << bit})
	}
	r := dice()
	for range 50 {
		l = append(l, header(r))
	}
	return l
}

// lengths of bodies that may be: each one.
func lengths() []int {
	var l []int
	for n := 0; n <= 1488; n += 4 {
		l = append(l, n)
	}
	return l
}

// slow is a packet's bytes as the chapter's words say them, with the library's sum.
func slow(h api.Header, body []byte) []byte {
	b := []byte{
		byte(h.From / 256), byte(h.From % 256), byte(h.To / 256), byte(h.To % 256),
		byte(h.Tag / 16777216), byte(h.Tag / 65536 % 256), byte(h.Tag / 256 % 256), byte(h.Tag % 256),
		0, 0, 0, 0,
	}
	b = append(b, body...)
	return withSum(b, sumOf(b))
}

// sumOf is the sum of a packet's bytes, noughts in its own place.
func sumOf(b []byte) uint32 {
	b = bytes.Clone(b)
	copy(b[8:12], make([]byte, 4))
	return crc32.Checksum(b, crc32.MakeTable(crc32.Castagnoli))
}

// withSum is the row with that sum in its place.
func withSum(b []byte, s uint32) []byte {
	b = bytes.Clone(b)
	b[8], b[9], b[10], b[11] = byte(s/16777216), byte(s/65536%256), byte(s/256%256), byte(s%256)
	return b
}

// number32 reads four bytes, the highest first; headOf, the ports and the tag.
func number32(b []byte) uint32 {
	return uint32(b[0])*16777216 + uint32(b[1])*65536 + uint32(b[2])*256 + uint32(b[3])
}

func headOf(b []byte) api.Header {
	return api.Header{From: uint16(number32(b) / 65536), To: uint16(number32(b) % 65536), Tag: number32(b[4:])}
}

func put(t *testing.T, h api.Header, body []byte) []byte {
	t.Helper()
	b, e := Put(h, body)
	if e != api.OK {
		t.Fatalf("Put(%v, %d bytes): %d", h, len(body), e)
	}
	return b
}

func putFails(t *testing.T, h api.Header, body []byte, want api.Errno) {
	t.Helper()
	if b, e := Put(h, body); e != want || len(b) != 0 {
		t.Errorf("Put(%v, %d bytes): %d bytes, error %d, want error %d alone", h, len(body), len(b), e, want)
	}
}

func taken(t *testing.T, b []byte, h api.Header, body []byte) {
	t.Helper()
	if g, got, e := Take(b); g != h || !bytes.Equal(got, body) || e != api.OK {
		t.Errorf("Take of %d bytes: %v %v %d, want %v %v", len(b), g, got, e, h, body)
	}
}

func takeFails(t *testing.T, b []byte, want api.Errno) {
	t.Helper()
	if h, body, e := Take(b); e != want || h != (api.Header{}) || len(body) != 0 {
		t.Errorf("Take of %d bytes %v: %v, %d bytes, error %d, want error %d alone", len(b), b[:min(len(b), 16)], h, len(body), e, want)
	}
}

// P3.1, P3.2: the chapter's examples.
func TestExamples(t *testing.T) {
	h := api.Header{From: 1, To: 2, Tag: 3}
	b := put(t, h, nil)
	if len(b) != 12 || !bytes.Equal(b[:8], []byte{0, 1, 0, 2, 0, 0, 0, 3}) {
		t.Errorf("Put: %v", b)
	}
	taken(t, b, h, nil)
	takeFails(t, b[:11], api.ErrShort)
	takeFails(t, append(bytes.Clone(b), 0, 0), api.ErrAlign)
	takeFails(t, make([]byte, 14), api.ErrAlign)
	putFails(t, h, make([]byte, 3), api.ErrAlign)
	putFails(t, h, make([]byte, 1492), api.ErrLong)
	takeFails(t, make([]byte, 12), api.ErrSum)
}

// P3.1: each number has its place, the highest byte first, and the sum is that of the standard, with noughts in its place.
func TestPutPlaces(t *testing.T) {
	b := put(t, api.Header{From: 0x0102, To: 0x0304, Tag: 0x05060708}, []byte("12345678"))
	if want := []byte{1, 2, 3, 4, 5, 6, 7, 8}; !bytes.Equal(b[:8], want) {
		t.Errorf("ports and tag: %v", b[:8])
	}
	if string(b[12:]) != "12345678" {
		t.Errorf("body: %q", b[12:])
	}
	s := sumOf(b)
	if want := []byte{byte(s >> 24), byte(s >> 16), byte(s >> 8), byte(s)}; !bytes.Equal(b[8:12], want) {
		t.Errorf("sum: %v, want %v", b[8:12], want)
	}
	// the sum of 32 noughts is one of those that RFC 3720 gives (its section B.4)
	if b := put(t, api.Header{}, make([]byte, 20)); !bytes.Equal(b[8:12], []byte{0x8a, 0x91, 0x36, 0xaa}) {
		t.Errorf("of noughts: %x", b[8:12])
	}
}

// P3.1: Put is what the words say, for heads at their edges, and for each length that may be.
func TestPut(t *testing.T) {
	r := dice()
	check := func(h api.Header, body []byte) {
		t.Helper()
		if b, want := put(t, h, body), slow(h, body); !bytes.Equal(b, want) {
			t.Errorf("Put(%v, %v): %v, want %v", h, body, b, want)
		}
	}
	for _, h := range headers() {
		check(h, nil)
		check(h, []byte{})
		check(h, row(r, 4))
		check(h, row(r, 4*r.IntN(373)))
	}
	for _, n := range lengths() {
		check(header(r), row(r, n))
		check(header(r), make([]byte, n))
		check(header(r), bytes.Repeat([]byte{255}, n))
	}
}

// P3.1: each length of a body, up to far past what may be: ErrAlign goes ahead of ErrLong.
func TestPutErrors(t *testing.T) {
	h := api.Header{From: 7, To: 8, Tag: 9}
	body := row(dice(), 3100)
	for n := range body {
		switch {
		case n%4 != 0:
			putFails(t, h, body[:n], api.ErrAlign)
		case n > 1488:
			putFails(t, h, body[:n], api.ErrLong)
		default:
			if b := put(t, h, body[:n]); len(b) != n+12 {
				t.Errorf("Put of %d bytes: %d", n, len(b))
			}
		}
	}
	for _, n := range []int{65535, 65536, 65537, 1<<20 - 1, 1 << 20} {
		want := api.ErrLong
		if n%4 != 0 {
			want = api.ErrAlign
		}
		putFails(t, h, make([]byte, n), want)
	}
}

// P3.2: Take is what the words say, of bytes that were made by them.
func TestTake(t *testing.T) {
	r := dice()
	for _, h := range headers() {
		body := row(r, 4*r.IntN(373))
		taken(t, slow(h, body), h, body)
		taken(t, slow(h, nil), h, nil)
	}
	for _, n := range lengths() {
		h, body := header(r), row(r, n)
		taken(t, slow(h, body), h, body)
	}
}

// P3.2: each number of bytes, from none to far past what may be, of rows whose sum is right or another one:
// ErrLong goes ahead of ErrAlign and of ErrSum, ErrShort ahead of ErrAlign, ErrAlign ahead of ErrSum.
func TestTakeErrors(t *testing.T) {
	takeFails(t, nil, api.ErrShort)
	all := row(dice(), 3100)
	for n := range all {
		right, other := all[:n], all[:n]
		if n >= 12 {
			right = withSum(right, sumOf(right))
			other = withSum(other, sumOf(other)+1)
		}
		want := api.ErrSum
		switch {
		case n > 1500:
			want = api.ErrLong
		case n < 12:
			want = api.ErrShort
		case n%4 != 0:
			want = api.ErrAlign
		}
		takeFails(t, other, want)
		if want != api.ErrSum {
			takeFails(t, right, want)
		} else if _, _, e := Take(right); e != api.OK {
			t.Errorf("Take of %d bytes whose sum is right: %d", n, e)
		}
	}
	for _, n := range []int{65536, 65537, 1 << 20} {
		takeFails(t, make([]byte, n), api.ErrLong)
	}
}

// P3.2: sums that are right but for how they were worked out or laid down.
func TestTakeOtherSums(t *testing.T) {
	r := dice()
	for _, n := range []int{16, 60, 1500} {
		b := slow(header(r), row(r, n-12))
		s := sumOf(b)
		library := crc32.MakeTable(crc32.Castagnoli)
		for name, x := range map[string]uint32{
			"the lowest byte first":    s>>24 | s>>8&0xff00 | s<<8&0xff0000 | s<<24,
			"its bits turned":          ^s,
			"nought":                   0,
			"all ones":                 4294967295,
			"one more":                 s + 1,
			"one less":                 s - 1,
			"its own place left out":   crc32.Update(crc32.Checksum(b[:8], library), library, b[12:]),
			"the head alone":           crc32.Checksum(withSum(b, 0)[:12], library),
			"the body alone":           crc32.Checksum(b[12:], library),
			"the ports alone":          crc32.Checksum(b[:4], library),
			"another kind of sum":      crc32.ChecksumIEEE(withSum(b, 0)),
			"its own place as it was":  crc32.Checksum(b, library),
			"its own place with a one": crc32.Checksum(withSum(b, 1), library),
		} {
			if x == s {
				t.Fatalf("%s: was to be another one", name)
			}
			takeFails(t, withSum(b, x), api.ErrSum)
		}
		taken(t, withSum(b, s), headOf(b), b[12:])
	}
}

// P3.1: the packet's bytes are a list of its own, and what is handed in stays as it is, also behind the body's end.
func TestPutOwn(t *testing.T) {
	h := api.Header{From: 1, To: 2, Tag: 3}
	for _, n := range []int{0, 4, 8, 40, 1488} {
		whole := row(dice(), n+20)
		was := bytes.Clone(whole)
		b := put(t, h, whole[:n])
		if !bytes.Equal(whole, was) {
			t.Errorf("%d bytes: the body is changed", n)
		}
		again := bytes.Clone(b)
		for i := range whole {
			whole[i] ^= 255
		}
		if !bytes.Equal(b, again) {
			t.Errorf("%d bytes: the packet goes with the body", n)
		}
		copy(whole, was)
		for i := range b[:cap(b)] {
			b[:cap(b)][i] ^= 255
		}
		if !bytes.Equal(whole, was) {
			t.Errorf("%d bytes: the body goes with the packet", n)
		}
		if !bytes.Equal(put(t, h, whole[:n]), again) {
			t.Errorf("%d bytes: another answer to the same call", n)
		}
	}
}

// P3.2: the body is bytes of its own, and what is handed in stays as it is, taken or not, also behind its end.
func TestTakeOwn(t *testing.T) {
	h := api.Header{From: 1, To: 2, Tag: 3}
	for _, n := range []int{0, 4, 8, 40, 1488} {
		body := row(dice(), n)
		whole := append(slow(h, body), row(dice(), 20)...)
		was := bytes.Clone(whole)
		_, got, e := Take(whole[:12+n])
		if e != api.OK {
			t.Fatal(n, e)
		}
		for i := range got[:cap(got)] {
			got[:cap(got)][i] ^= 255
		}
		if !bytes.Equal(whole, was) {
			t.Errorf("%d bytes: the packet goes with the body", n)
		}
		_, got, _ = Take(whole[:12+n])
		for i := range whole {
			whole[i] ^= 255
		}
		if !bytes.Equal(got, body) {
			t.Errorf("%d bytes: the body goes with the packet", n)
		}
	}
	for _, n := range []int{0, 11, 12, 14, 60, 1501} {
		b := row(dice(), n)
		if _, _, e := Take(b); e == api.OK || !bytes.Equal(b, row(dice(), n)) {
			t.Errorf("%d bytes that aren't taken: error %d, or they are changed", n, e)
		}
	}
}

// P3.3: what was put is taken as it was, and what is taken is put as those bytes.
func TestThereAndBack(t *testing.T) {
	r := dice()
	check := func(h api.Header, body []byte) {
		t.Helper()
		b := put(t, h, body)
		taken(t, b, h, body)
		g, got, _ := Take(b)
		if again := put(t, g, got); !bytes.Equal(again, b) {
			t.Errorf("%v of %d bytes, put again: %v, want %v", h, len(body), again, b)
		}
	}
	for _, h := range headers() {
		check(h, nil)
		check(h, row(r, 8))
		check(h, row(r, 1488))
	}
	for _, n := range lengths() {
		check(header(r), row(r, n))
		check(header(r), make([]byte, n))
		check(header(r), bytes.Repeat([]byte{255}, n))
	}
}

// turned is the row with those of the 32 bits from bit at on turned (of a byte the lowest one first) that ways has as ones.
func turned(b []byte, at int, ways uint32) []byte {
	b = bytes.Clone(b)
	for i := range 32 {
		if k := at + i; ways>>i&1 == 1 && k < 8*len(b) {
			b[k/8] ^= 1 << (k % 8)
		}
	}
	return b
}

// P3.3: of the sum alone: each bit, each two, each byte's every other value, and ways by chance.
func TestSumOtherwise(t *testing.T) {
	r := dice()
	for _, n := range []int{0, 4, 28, 1488} {
		b := put(t, header(r), row(r, n))
		for i := range 32 {
			for j := range 32 {
				takeFails(t, turned(b, 64, 1<<i|1<<j), api.ErrSum)
			}
		}
		for ways := uint32(1); ways < 256; ways++ {
			for at := 64; at < 96; at += 8 {
				takeFails(t, turned(b, at, ways), api.ErrSum)
			}
		}
		for range 200 {
			takeFails(t, turned(b, 64, max(r.Uint32(), 1)), api.ErrSum)
		}
	}
}

// P3.3: of the rest alone: each bit, all 32 from each bit on, and ways by chance from each bit on,
// in the eight bytes ahead of the sum and in the body.
func TestRestOtherwise(t *testing.T) {
	r := dice()
	for _, n := range []int{0, 4, 8, 28, 364, 1488} {
		b := put(t, header(r), row(r, n))
		for at := range 8 * len(b) {
			if at >= 64 && at < 96 {
				continue // the sum's own place
			}
			only := uint32(4294967295)
			if at < 64 && at > 32 {
				only >>= at - 32 // what is ahead of the sum
			}
			takeFails(t, turned(b, at, 1), api.ErrSum)
			takeFails(t, turned(b, at, only), api.ErrSum)
			for range 4 {
				takeFails(t, turned(b, at, r.Uint32()&only|1), api.ErrSum)
			}
		}
	}
}

// P3.3: each way to be otherwise in a byte and the next, ahead of the sum and in the body.
func TestTwoBytesOtherwise(t *testing.T) {
	b := put(t, api.Header{From: 77, To: 99, Tag: 12345678}, []byte("body"))
	for _, at := range []int{0, 1, 2, 3, 4, 5, 6, 12, 13, 14} {
		for ways := uint32(1); ways < 65536; ways++ {
			takeFails(t, turned(b, 8*at, ways), api.ErrSum)
		}
	}
}

// P3.3: all ways to be otherwise within 32 bits, at once. What turning a bit of the rest does to the sum is the same whatever
// the others are, so it is enough that no choice of 32 bits side by side does nothing to it.
func TestAllWaysWithin32Bits(t *testing.T) {
	for _, n := range []int{0, 4, 8, 12, 28, 364, 1488} {
		b := put(t, api.Header{}, make([]byte, n))
		does := func(at int) uint32 {
			c := turned(b, at, 1)
			return number32(put(t, headOf(c), c[12:])[8:]) ^ number32(b[8:])
		}
		for _, part := range [][2]int{{0, 64}, {96, 8 * len(b)}} {
			var all []uint32
			for at := part[0]; at < part[1]; at++ {
				all = append(all, does(at))
			}
			for i := range all {
				if !independent(all[i:min(i+32, len(all))]) {
					t.Fatalf("body of %d bytes: some that are otherwise from bit %d on have one sum", n, part[0]+i)
				}
			}
		}
	}
}

// independent: whether no choice of some of them is 0, turned by one another.
func independent(l []uint32) bool {
	var lead [32]uint32
	for _, x := range l {
		for i := 31; i >= 0 && x != 0; i-- {
			if x>>i&1 == 0 {
				continue
			}
			if lead[i] == 0 {
				lead[i] = x
				break
			}
			x ^= lead[i]
		}
		if x == 0 {
			return false
		}
	}
	return true
}
