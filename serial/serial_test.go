package serial

import (
	"math/rand/v2"
	"testing"
)

// size is how many numbers of the type there are.
func size[T uint16 | uint32]() int64 { return int64(^T(0)) + 1 }

// slowWay is the way as the chapter's words say it, in numbers that do not go round.
func slowWay[T uint16 | uint32](a, b T) int64 {
	x := int64(b) - int64(a)
	if x < 0 {
		x += size[T]()
	}
	return x
}

func slowBefore[T uint16 | uint32](a, b T) bool {
	x := slowWay(a, b)
	return 1 <= x && x <= size[T]()/2-1
}

func slowMax[T uint16 | uint32](a, b T) T {
	if slowBefore(a, b) {
		return b
	}
	return a
}

func dice() *rand.Rand { return rand.New(rand.NewPCG(7, 16)) }

// numbers are those about each quarter of the round, each power of two, and some by chance.
func numbers[T uint16 | uint32]() []T {
	var l []T
	quarter := T(size[T]() / 4)
	for q := T(0); q < 4; q++ {
		for d := T(0); d < 6; d++ {
			l = append(l, q*quarter+d-3)
		}
	}
	for x := T(8); x != 0; x *= 2 {
		l = append(l, x-1, x, x+1)
	}
	r := dice()
	for range 60 {
		l = append(l, T(r.Uint32()))
	}
	return l
}

// P7.1, P7.2: the chapter's examples.
func TestExamples(t *testing.T) {
	if !Before[uint16](65535, 0) || Before[uint16](0, 32768) || !Before[uint16](0, 32767) {
		t.Error("Before of 16 bits")
	}
	if x := Span(4294967295, 4); x != 5 {
		t.Errorf("Span(4294967295, 4): %d", x)
	}
	if x := Max[uint32](4294967295, 4); x != 4 {
		t.Errorf("Max(4294967295, 4): %d", x)
	}
	if !Within(4294967290, 1, 3) || !Within(5, 3, 4) || Within(5, 4, 6) {
		t.Error("Within")
	}
}

// checkTwo holds what is told of two numbers against the words.
func checkTwo[T uint16 | uint32](t *testing.T, a, b T) {
	t.Helper()
	if x, want := Before(a, b), slowBefore(a, b); x != want {
		t.Fatalf("Before(%d, %d) of %T: %v", a, b, a, x)
	}
	if x, want := Max(a, b), slowMax(a, b); x != want {
		t.Fatalf("Max(%d, %d) of %T: %d, want %d", a, b, a, x, want)
	}
}

// P7.1, P7.2: Before and Max at the edges of the way, written out.
func TestEdges(t *testing.T) {
	for _, c := range []struct {
		way    uint16
		before bool
	}{{0, false}, {1, true}, {2, true}, {32766, true}, {32767, true}, {32768, false}, {32769, false}, {65534, false}, {65535, false}} {
		for _, a := range []uint16{0, 1, 7, 32767, 32768, 32769, 65534, 65535} {
			edge(t, a, a+c.way, c.before)
		}
	}
	for _, c := range []struct {
		way    uint32
		before bool
	}{{0, false}, {1, true}, {2, true}, {32768, true}, {65536, true}, {2147483646, true}, {2147483647, true}, {2147483648, false}, {2147483649, false}, {4294967294, false}, {4294967295, false}} {
		for _, a := range []uint32{0, 1, 7, 65535, 65536, 2147483647, 2147483648, 2147483649, 4294967294, 4294967295} {
			edge(t, a, a+c.way, c.before)
		}
	}
}

func edge[T uint16 | uint32](t *testing.T, a, b T, before bool) {
	t.Helper()
	if Before(a, b) != before {
		t.Errorf("Before(%d, %d) of %T: %v", a, b, a, !before)
	}
	most := a
	if before {
		most = b
	}
	if x := Max(a, b); x != most {
		t.Errorf("Max(%d, %d) of %T: %d, want %d", a, b, a, x, most)
	}
}

// P7.1, P7.2: each way of 16 bits, from many numbers on.
func TestAllWaysOf16Bits(t *testing.T) {
	for _, a := range numbers[uint16]() {
		for b := range 65536 {
			checkTwo(t, a, uint16(b))
		}
	}
}

// P7.1, P7.2: ways of 32 bits about the edges and by chance, from many numbers on.
func TestWaysOf32Bits(t *testing.T) {
	l := numbers[uint32]()
	for _, a := range l {
		for _, w := range l {
			checkTwo(t, a, a+w)
		}
	}
	r := dice()
	for range 200000 {
		checkTwo(t, r.Uint32(), r.Uint32())
	}
}

// P7.1: numbers of 16 bits are not asked as numbers of 32: what is before in one size is not in the other.
func TestSizes(t *testing.T) {
	if !Before[uint16](65535, 0) || Before[uint32](65535, 0) {
		t.Error("65535, 0")
	}
	if Before[uint16](0, 40000) || !Before[uint32](0, 40000) {
		t.Error("0, 40000")
	}
	if Max[uint16](65535, 0) != 0 || Max[uint32](65535, 0) != 65535 {
		t.Error("the greatest of 65535, 0")
	}
}

// P7.1: Span is the way, and who goes it is there.
func TestSpan(t *testing.T) {
	check := func(a, b uint32) {
		t.Helper()
		x := Span(a, b)
		if want := slowWay(a, b); int64(x) != want {
			t.Fatalf("Span(%d, %d): %d, want %d", a, b, x, want)
		}
		if a+x != b {
			t.Fatalf("Span(%d, %d): %d, and whoever goes it is at %d", a, b, x, a+x)
		}
	}
	l := numbers[uint32]()
	for _, a := range l {
		for _, b := range l {
			check(a, b)
		}
	}
	r := dice()
	for range 100000 {
		check(r.Uint32(), r.Uint32())
	}
	for _, c := range [][3]uint32{{0, 0, 0}, {9, 9, 0}, {0, 1, 1}, {1, 0, 4294967295}, {0, 4294967295, 4294967295}, {4294967295, 0, 1}, {0, 2147483648, 2147483648}, {2147483648, 0, 2147483648}, {3, 1, 4294967294}} {
		if x := Span(c[0], c[1]); x != c[2] {
			t.Fatalf("Span(%d, %d): %d, want %d", c[0], c[1], x, c[2])
		}
	}
}

// P7.2: Within is what the words say, at all places of three numbers to one another.
func TestWithin(t *testing.T) {
	check := func(a, x, b uint32) {
		t.Helper()
		if got, want := Within(a, x, b), slowWay(a, x) <= slowWay(a, b); got != want {
			t.Fatalf("Within(%d, %d, %d): %v", a, x, b, got)
		}
	}
	l := numbers[uint32]()
	for _, a := range l {
		for _, x := range l {
			for _, b := range l {
				check(a, x, b)
			}
		}
	}
	r := dice()
	for range 100000 {
		check(r.Uint32(), r.Uint32(), r.Uint32())
	}
}

// P7.2: Within at its edges: the ends belong to it, what is next to them does not; half of the round is no bound.
func TestWithinEdges(t *testing.T) {
	for _, a := range numbers[uint32]() {
		for _, way := range []uint32{0, 1, 2, 1000, 2147483647, 2147483648, 2147483649, 4294967293, 4294967294} {
			b := a + way
			if !Within(a, a, b) || !Within(a, b, b) || !Within(a, a+way/2, b) {
				t.Errorf("from %d to %d: the ends, or the middle", a, b)
			}
			if Within(a, b+1, b) || Within(a, a-1, b) {
				t.Errorf("from %d to %d: what is next to it", a, b)
			}
		}
		if !Within(a, a-1, a-1) || !Within(a, a+2147483648, a-1) || !Within(a, a, a-1) {
			t.Errorf("the whole round from %d on", a)
		}
	}
}

// P7.3: of two numbers that are unlike one is before the other and not both, but if the way is just half: then neither; nor of two alike.
func TestOneBeforeTheOther(t *testing.T) {
	for _, a := range numbers[uint16]() {
		for w := range 65536 {
			oneBefore(t, a, a+uint16(w))
		}
	}
	l := numbers[uint32]()
	r := dice()
	for range 1000 {
		l = append(l, r.Uint32())
	}
	for _, a := range l {
		for _, w := range l {
			oneBefore(t, a, a+w)
		}
	}
}

func oneBefore[T uint16 | uint32](t *testing.T, a, b T) {
	t.Helper()
	half := a - b + T(size[T]()/2) // 0, if the way is just half: going it once more is the whole round
	x, y := Before(a, b), Before(b, a)
	if a == b || half == 0 {
		if x || y {
			t.Fatalf("%d and %d of %T: one is before the other", a, b, a)
		}
		if Max(a, b) != a || Max(b, a) != b {
			t.Fatalf("Max of %d and %d of %T is not the first one", a, b, a)
		}
		return
	}
	if x == y {
		t.Fatalf("%d and %d of %T: each is before the other, or neither: %v", a, b, a, x)
	}
	if Max(a, b) != Max(b, a) {
		t.Fatalf("Max of %d and %d of %T hangs on which one comes first", a, b, a)
	}
}

// P7.3: turning both by as much makes no difference.
func TestTurned(t *testing.T) {
	turned(t, numbers[uint16]())
	l := numbers[uint32]()
	turned(t, l)
	for _, a := range l {
		for _, b := range l {
			for _, by := range l {
				if Span(a, b) != Span(a+by, b+by) {
					t.Fatalf("Span(%d, %d), turned by %d", a, b, by)
				}
				if Within(a, by, b) != Within(0, by-a, b-a) {
					t.Fatalf("Within(%d, %d, %d), turned back to 0", a, by, b)
				}
			}
		}
	}
}

func turned[T uint16 | uint32](t *testing.T, l []T) {
	t.Helper()
	for _, a := range l {
		for _, b := range l {
			for _, by := range l {
				if Before(a, b) != Before(a+by, b+by) {
					t.Fatalf("Before(%d, %d) of %T, turned by %d", a, b, a, by)
				}
				if Max(a, b)+by != Max(a+by, b+by) {
					t.Fatalf("Max(%d, %d) of %T, turned by %d", a, b, a, by)
				}
			}
		}
	}
}
