package tlv

import (
	"bytes"
	"iter"
	"math/rand/v2"
	"testing"

	"lanyard/api"
)

func dice() *rand.Rand { return rand.New(rand.NewPCG(4, 65535)) }

func row(r *rand.Rand, n int) []byte {
	b := make([]byte, n)
	for i := range b {
		b[i] = byte(r.Uint32())
	}
	return b
}

// thing is one by chance, of n bytes, as a chunk or as a parameter may be.
func thing(r *rand.Rand, chunk bool, n int) api.Tlv {
	x := api.Tlv{Kind: uint16(r.Uint32()), Value: row(r, n)}
	if chunk {
		x.Kind, x.Flags = x.Kind%256, uint8(r.Uint32())
	}
	return x
}

// told is what was told in one place.
type told struct {
	x api.Tlv
	e api.Errno
}

func (a told) is(b told) bool {
	return a.e == b.e && a.x.Kind == b.x.Kind && a.x.Flags == b.x.Flags && bytes.Equal(a.x.Value, b.x.Value)
}

func same(a, b []told) bool {
	for i := range min(len(a), len(b)) {
		if !a[i].is(b[i]) {
			return false
		}
	}
	return len(a) == len(b)
}

func gather(s iter.Seq2[api.Tlv, api.Errno]) (l []told) {
	for x, e := range s {
		l = append(l, told{x, e})
	}
	return l
}

// slow is a thing's bytes as the chapter's words say them.
func slow(chunk bool, x api.Tlv) []byte {
	n := len(x.Value) + 4
	b := []byte{byte(x.Kind / 256), byte(x.Kind % 256), byte(n / 256), byte(n % 256)}
	if chunk {
		b[0], b[1] = byte(x.Kind), x.Flags
	}
	b = append(b, x.Value...)
	for len(b)%4 != 0 {
		b = append(b, 0)
	}
	return b
}

// slowAll goes over bytes as the chapter's words say it: at each place a thing is guessed, and held against what is there.
func slowAll(chunk bool, b []byte) (l []told) {
	for len(b) > 0 {
		x, size := slowFirst(chunk, b)
		if size == 0 {
			return append(l, told{e: api.ErrTlv})
		}
		l = append(l, told{x: x})
		b = b[size:]
	}
	return l
}

func slowFirst(chunk bool, b []byte) (api.Tlv, int) {
	if len(b) < 4 {
		return api.Tlv{}, 0
	}
	n := int(b[2])*256 + int(b[3])
	if n < 4 || n > len(b) {
		return api.Tlv{}, 0
	}
	x := api.Tlv{Kind: uint16(b[0])*256 + uint16(b[1]), Value: b[4:n]}
	if chunk {
		x.Kind, x.Flags = uint16(b[0]), b[1]
	}
	if want := slow(chunk, x); bytes.HasPrefix(b, want) {
		return x, len(want)
	}
	return api.Tlv{}, 0
}

func putIs(t *testing.T, chunk bool, x api.Tlv) {
	t.Helper()
	if b, e := Put(chunk, x); e != api.OK || !bytes.Equal(b, slow(chunk, x)) {
		t.Errorf("Put(%v, %d %d, %d bytes): %d bytes, error %d, not as the words say", chunk, x.Kind, x.Flags, len(x.Value), len(b), e)
	}
}

func putFails(t *testing.T, chunk bool, x api.Tlv, want api.Errno) {
	t.Helper()
	if b, e := Put(chunk, x); e != want || len(b) != 0 {
		t.Errorf("Put(%v, %d %d, %d bytes): %d bytes, error %d, want error %d alone", chunk, x.Kind, x.Flags, len(x.Value), len(b), e, want)
	}
}

// toldIs: what All and List tell of the bytes.
func toldIs(t *testing.T, chunk bool, b []byte, want []told) {
	t.Helper()
	if l := gather(All(chunk, b)); !same(l, want) {
		t.Errorf("All(%v, %d bytes %v): %v, want %v", chunk, len(b), b[:min(len(b), 40)], l, want)
	}
	wantError := api.OK
	if n := len(want); n > 0 && want[n-1].e != api.OK {
		want, wantError = nil, want[n-1].e
	}
	got, e := List(chunk, b)
	var l []told
	for _, x := range got {
		l = append(l, told{x: x})
	}
	if e != wantError || !same(l, want) {
		t.Errorf("List(%v, %d bytes %v): %v, error %d, want %v, error %d", chunk, len(b), b[:min(len(b), 40)], got, e, want, wantError)
	}
}

// fails: where none begins, at once.
func fails(t *testing.T, b []byte) {
	t.Helper()
	toldIs(t, true, b, []told{{e: api.ErrTlv}})
	toldIs(t, false, b, []told{{e: api.ErrTlv}})
}

// lengths that can be said: all short ones, all about the greatest one, and some between.
func lengths() (l []int) {
	for n := 0; n < 65536; n++ {
		l = append(l, n)
		if n > 2000 && n < 65400 {
			n += 60
		}
	}
	return l
}

func both(f func(chunk bool)) {
	f(true)
	f(false)
}

// P4.1, P4.3: the chapter's examples.
func TestExamples(t *testing.T) {
	b, e := Put(true, api.Tlv{Kind: 3, Flags: 1, Value: []byte{9, 9, 9, 9, 9}})
	if e != api.OK || !bytes.Equal(b, []byte{3, 1, 0, 9, 9, 9, 9, 9, 9, 0, 0, 0}) {
		t.Errorf("Put: %v %d", b, e)
	}
	toldIs(t, false, []byte{128, 5, 0, 4, 0, 7, 0, 5, 1, 0, 0, 0}, []told{{x: api.Tlv{Kind: 32773}}, {x: api.Tlv{Kind: 7, Value: []byte{1}}}})
	for _, b := range [][]byte{{0, 7, 0}, {0, 7, 0, 3}, {0, 7, 0, 5, 1, 0, 0}, {0, 7, 0, 5, 1, 0, 0, 1}} {
		fails(t, b)
	}
}

// P4.1: each byte of a thing's bytes, of values of no byte to eight.
func TestPutPlaces(t *testing.T) {
	value := []byte{11, 12, 13, 14, 15, 16, 17, 18}
	for n, behind := range [][]byte{
		{0, 4}, {0, 5, 11, 0, 0, 0}, {0, 6, 11, 12, 0, 0}, {0, 7, 11, 12, 13, 0}, {0, 8, 11, 12, 13, 14},
		{0, 9, 11, 12, 13, 14, 15, 0, 0, 0}, {0, 10, 11, 12, 13, 14, 15, 16, 0, 0}, {0, 11, 11, 12, 13, 14, 15, 16, 17, 0}, {0, 12, 11, 12, 13, 14, 15, 16, 17, 18},
	} {
		b, e := Put(true, api.Tlv{Kind: 200, Flags: 100, Value: value[:n]})
		if want := append([]byte{200, 100}, behind...); e != api.OK || !bytes.Equal(b, want) {
			t.Errorf("a chunk of %d: %v %d, want %v", n, b, e, want)
		}
		b, e = Put(false, api.Tlv{Kind: 0x0201, Value: value[:n]})
		if want := append([]byte{2, 1}, behind...); e != api.OK || !bytes.Equal(b, want) {
			t.Errorf("a parameter of %d: %v %d, want %v", n, b, e, want)
		}
	}
	for _, none := range [][]byte{nil, {}} {
		if b, e := Put(true, api.Tlv{Kind: 255, Flags: 255, Value: none}); e != api.OK || !bytes.Equal(b, []byte{255, 255, 0, 4}) {
			t.Errorf("a chunk of nothing: %v %d", b, e)
		}
		if b, e := Put(false, api.Tlv{Kind: 65535, Value: none}); e != api.OK || !bytes.Equal(b, []byte{255, 255, 0, 4}) {
			t.Errorf("a parameter of nothing: %v %d", b, e)
		}
	}
}

// P4.1: each kind and each of a chunk's flags, as far as they may be, and as far as they may not.
func TestPutKinds(t *testing.T) {
	value := []byte{1, 2, 3, 4, 5}
	for kind := range 65536 {
		x := api.Tlv{Kind: uint16(kind), Value: value}
		putIs(t, false, x)
		if kind <= 255 {
			putIs(t, true, x)
		} else {
			putFails(t, true, x, api.ErrArg)
		}
	}
	for flags := range 256 {
		for _, kind := range []uint16{0, 1, 14, 255} {
			x := api.Tlv{Kind: kind, Flags: uint8(flags), Value: value}
			putIs(t, true, x)
			if flags != 0 {
				putFails(t, false, x, api.ErrArg)
			}
		}
		putFails(t, true, api.Tlv{Kind: 256, Flags: uint8(flags)}, api.ErrArg)
	}
}

// P4.1: lengths: all that are short, those about each edge, and those that are too long: ErrArg goes ahead of ErrLong.
func TestPutLengths(t *testing.T) {
	r := dice()
	both(func(chunk bool) {
		for n := range 600 {
			putIs(t, chunk, thing(r, chunk, n))
		}
		for n := 65500; n < 65560; n++ {
			x := thing(r, chunk, n)
			if n+4 <= 65535 {
				putIs(t, chunk, x)
			} else {
				putFails(t, chunk, x, api.ErrLong)
			}
		}
		for _, n := range []int{131067, 131068, 131072, 1 << 20} {
			putFails(t, chunk, thing(r, chunk, n), api.ErrLong)
		}
	})
	for _, n := range []int{65531, 65532, 1 << 20} {
		putFails(t, true, api.Tlv{Kind: 256, Value: make([]byte, n)}, api.ErrArg)
		putFails(t, false, api.Tlv{Flags: 1, Value: make([]byte, n)}, api.ErrArg)
	}
	b, e := Put(true, api.Tlv{Kind: 1, Value: make([]byte, 65531)})
	if e != api.OK || len(b) != 65536 || !bytes.Equal(b[:4], []byte{1, 0, 255, 255}) {
		t.Errorf("a length of just 65535: %d bytes, error %d", len(b), e)
	}
}

// P4.1: Size hangs on the value's length alone, and is what Put tells, where it tells something.
func TestSize(t *testing.T) {
	for n, want := range []int{4, 8, 8, 8, 8, 12, 12, 12, 12, 16} {
		for _, x := range []api.Tlv{{}, {Kind: 255, Flags: 255}, {Kind: 65535}, {Kind: 256, Flags: 1}} {
			x.Value = make([]byte, n)
			if s := Size(x); s != want {
				t.Errorf("of %d bytes: %d, want %d", n, s, want)
			}
		}
	}
	for _, length := range lengths()[4:] {
		x := api.Tlv{Value: make([]byte, length-4)}
		if b, _ := Put(length%2 == 0, x); Size(x) != len(b) {
			t.Errorf("of %d bytes: %d, and Put tells %d", len(x.Value), Size(x), len(b))
		}
	}
	// beyond what may be put it is what such a thing would have
	for n, want := range map[int]int{65532: 65536, 65533: 65540, 65536: 65540, 65537: 65544, 1 << 20: 1<<20 + 4} {
		if s := Size(api.Tlv{Value: make([]byte, n)}); s != want {
			t.Errorf("of %d bytes: %d, want %d", n, s, want)
		}
	}
}

// P4.1: the bytes are a list of their own, and the value stays as it is, also behind its end.
func TestPutOwn(t *testing.T) {
	for _, n := range []int{0, 1, 4, 5, 100} {
		all := row(dice(), n+20)
		was := bytes.Clone(all)
		x := api.Tlv{Kind: 1, Value: all[:n]}
		b, _ := Put(true, x)
		again := bytes.Clone(b)
		for i := range b[:cap(b)] {
			b[:cap(b)][i] ^= 255
		}
		if !bytes.Equal(all, was) {
			t.Errorf("%d bytes: the value is changed, or goes with what is told", n)
		}
		b, _ = Put(true, x)
		for i := range all {
			all[i] ^= 255
		}
		if !bytes.Equal(b, again) {
			t.Errorf("%d bytes: what is told goes with the value, or another answer to the same call", n)
		}
	}
}

// P4.2, P4.3: of no bytes at all nothing is told, and no error.
func TestNoBytes(t *testing.T) {
	both(func(chunk bool) {
		toldIs(t, chunk, nil, nil)
		toldIs(t, chunk, []byte{}, nil)
		toldIs(t, chunk, []byte{0, 1, 0, 4}[:0], nil)
	})
}

// P4.2: values of each length from 0 to 8, by themselves and with another thing behind.
func TestAllOfShortValues(t *testing.T) {
	r := dice()
	both(func(chunk bool) {
		for n := range 9 {
			x, y := thing(r, chunk, n), thing(r, chunk, r.IntN(9))
			b := slow(chunk, x)
			toldIs(t, chunk, b, []told{{x: x}})
			toldIs(t, chunk, append(b, slow(chunk, y)...), []told{{x: x}, {x: y}})
		}
	})
	toldIs(t, true, []byte{255, 254, 0, 6, 7, 8, 0, 0}, []told{{x: api.Tlv{Kind: 255, Flags: 254, Value: []byte{7, 8}}}})
	toldIs(t, false, []byte{255, 254, 0, 6, 7, 8, 0, 0}, []told{{x: api.Tlv{Kind: 65534, Value: []byte{7, 8}}}})
	toldIs(t, true, []byte{1, 0, 0, 6, 0, 0, 0, 0}, []told{{x: api.Tlv{Kind: 1, Value: []byte{0, 0}}}})
}

// P4.2: lengths that can be said, with just as many bytes as they need, and with one less; those below 4 with more bytes too.
func TestEachLength(t *testing.T) {
	all := make([]byte, 65536+8)
	tell := func(chunk bool, b []byte) (int, api.Errno) {
		for x, e := range All(chunk, b) {
			return len(x.Value), e
		}
		return -1, api.OK
	}
	for _, length := range lengths() {
		all[0], all[2], all[3] = 9, byte(length>>8), byte(length)
		need := (length + 3) / 4 * 4
		chunk := length%2 == 0
		if length < 4 {
			fails(t, all[:4])
			fails(t, all[:8])
			fails(t, all)
			continue
		}
		if n, e := tell(chunk, all[:need]); n != length-4 || e != api.OK {
			t.Errorf("length %d: %d, error %d", length, n, e)
		}
		if n, e := tell(chunk, all[:need-1]); n != 0 || e != api.ErrTlv {
			t.Errorf("length %d, a byte too few: %d, error %d", length, n, e)
		}
	}
	both(func(chunk bool) {
		x := thing(dice(), chunk, 65531)
		toldIs(t, chunk, slow(chunk, x), []told{{x: x}})
	})
}

// P4.2: of a thing's bytes, cut anywhere: none begins there, whichever way it is cut.
func TestTooFewBytes(t *testing.T) {
	r := dice()
	both(func(chunk bool) {
		for n := range 13 {
			x, y := thing(r, chunk, r.IntN(9)), thing(r, chunk, n)
			ahead, b := slow(chunk, x), slow(chunk, y)
			for i := 1; i < len(b); i++ {
				toldIs(t, chunk, b[:i], []told{{e: api.ErrTlv}})
				toldIs(t, chunk, append(bytes.Clone(ahead), b[:i]...), []told{{x: x}, {e: api.ErrTlv}})
			}
		}
	})
	for n := 1; n < 4; n++ {
		fails(t, make([]byte, n))
		fails(t, []byte{0, 0, 0, 4}[:n])
	}
}

// P4.2: lengths below 4, of just 4, and above, with any number of bytes behind them.
func TestShortLengths(t *testing.T) {
	for behind := range 20 {
		for length := range 4 {
			fails(t, append([]byte{0, 7, 0, byte(length)}, make([]byte, behind)...))
		}
	}
	toldIs(t, true, []byte{0, 7, 0, 4}, []told{{x: api.Tlv{Flags: 7}}})
	toldIs(t, false, []byte{0, 7, 0, 4}, []told{{x: api.Tlv{Kind: 7}}})
	fails(t, []byte{0, 7, 0, 5})
	fails(t, []byte{0, 7, 0, 5, 1})
	fails(t, []byte{0, 7, 1, 4, 1, 2, 3, 4})
	toldIs(t, false, []byte{0, 7, 0, 4, 0, 7, 0, 3}, []told{{x: api.Tlv{Kind: 7}}, {e: api.ErrTlv}})
}

// P4.2: each byte behind a value that should be 0, with each of its bits, by itself; behind it stands a whole thing, which is not told.
func TestBytesThatShouldBe0(t *testing.T) {
	r := dice()
	both(func(chunk bool) {
		for n := range 13 {
			x, y := thing(r, chunk, n), thing(r, chunk, 3)
			b := append(slow(chunk, x), slow(chunk, y)...)
			for at := 4 + n; at%4 != 0; at++ {
				for bit := range 8 {
					c := bytes.Clone(b)
					c[at] = 1 << bit
					toldIs(t, chunk, c, []told{{e: api.ErrTlv}})
					toldIs(t, chunk, append(bytes.Clone(b), c...), []told{{x: x}, {x: y}, {e: api.ErrTlv}})
				}
			}
		}
	})
}

// P4.2, P4.3: all rows of up to nine bytes out of a few, and rows by chance, as the words say.
func TestAllRows(t *testing.T) {
	few := []byte{0, 4, 5, 9}
	for n := range 10 {
		b := make([]byte, n)
		for i := range 1 << (2 * n) {
			for j := range b {
				b[j] = few[i>>(2*j)%4]
			}
			toldIs(t, i%2 == 0, b, slowAll(i%2 == 0, b))
		}
	}
	r := dice()
	for range 20000 {
		b := row(r, r.IntN(80))
		for i := range b {
			b[i] %= []byte{1, 2, 14, 255}[r.IntN(4)]
		}
		both(func(chunk bool) { toldIs(t, chunk, b, slowAll(chunk, b)) })
	}
}

// P4.2: it may be left behind one thing, behind some, and where none begins; nothing more is told then.
func TestLeft(t *testing.T) {
	r := dice()
	both(func(chunk bool) {
		var b []byte
		var want []told
		for range 7 {
			x := thing(r, chunk, r.IntN(9))
			b, want = append(b, slow(chunk, x)...), append(want, told{x: x})
		}
		b, want = append(b, 1, 2), append(want, told{e: api.ErrTlv})
		s := All(chunk, b)
		for leave := 1; leave <= len(want); leave++ {
			var l []told
			for x, e := range s {
				if l = append(l, told{x, e}); len(l) == leave {
					break
				}
			}
			if !same(l, want[:leave]) {
				t.Errorf("left behind %d: %v, want %v", leave, l, want[:leave])
			}
			asked := 0
			s(func(api.Tlv, api.Errno) bool { asked++; return asked < leave })
			if asked != leave {
				t.Errorf("left behind %d: it went on to %d", leave, asked)
			}
		}
		// it goes over all of them each time, also behind having been left, and within itself
		for range s {
			if l := gather(s); !same(l, want) {
				t.Errorf("once more: %v, want %v", l, want)
			}
		}
	})
}

// P4.2: behind ErrTlv it ends, whether it is asked to go on or not.
func TestEndsBehindError(t *testing.T) {
	for _, b := range [][]byte{{1}, {0, 7, 0, 3}, {0, 7, 0, 3, 0, 7, 0, 4}, {0, 7, 0, 5, 1, 0, 0, 1, 0, 7, 0, 4}, {0, 7, 0, 9, 0, 7, 0, 4}} {
		for _, on := range []bool{true, false} {
			asked := 0
			All(false, b)(func(x api.Tlv, e api.Errno) bool {
				if asked++; e != api.ErrTlv || x.Kind != 0 || x.Flags != 0 || len(x.Value) != 0 {
					t.Errorf("%v: %v, error %d, want an empty thing and error %d", b, x, e, api.ErrTlv)
				}
				return on
			})
			if asked != 1 {
				t.Errorf("%v: told %d times", b, asked)
			}
		}
	}
}

// P4.2, P4.3: values are bytes of their own: of what was handed in, of one another, and of what is told next time.
func TestValuesOwn(t *testing.T) {
	r := dice()
	both(func(chunk bool) {
		var b []byte
		for n := range 9 {
			b = append(b, slow(chunk, thing(r, chunk, n))...)
		}
		was, want := bytes.Clone(b), slowAll(chunk, bytes.Clone(b))
		spoil := func(v []byte) {
			for i := range v[:cap(v)] {
				v[:cap(v)][i] ^= 255
			}
		}
		s := All(chunk, b)
		for i := range 2 {
			n := 0
			for x, e := range s {
				if !(told{x, e}).is(want[n]) {
					t.Errorf("time %d: %v, want %v", i, x, want[n])
				}
				spoil(x.Value)
				n++
			}
		}
		l, _ := List(chunk, b)
		for i, x := range l {
			if !(told{x: x}).is(want[i]) {
				t.Errorf("of the list: %v, want %v", x, want[i])
			}
			spoil(x.Value)
		}
		if !bytes.Equal(b, was) {
			t.Error("what was handed in goes with what is told")
		}
		toldIs(t, chunk, b, want)
	})
}

// P4.2, P4.3: what is handed in is neither changed nor kept: what is told is as it was when All was called.
func TestHandedIn(t *testing.T) {
	b := []byte{0, 7, 0, 5, 1, 0, 0, 0, 0, 8, 0, 6, 2, 3, 0, 0, 9}
	was := bytes.Clone(b)
	want := slowAll(false, bytes.Clone(b))
	s := All(false, b)
	l, _ := List(false, b[:16])
	if got := gather(s); !same(got, want) || !bytes.Equal(b, was) {
		t.Errorf("%v, want %v; of %v", got, want, b)
	}
	n := 0
	for x, e := range s {
		if !(told{x, e}).is(want[n]) {
			t.Errorf("changed meanwhile: %v, error %d, want %v", x, e, want[n])
		}
		n++
		clear(b)
	}
	if got := gather(s); !same(got, want) {
		t.Errorf("changed ahead: %v, want %v", got, want)
	}
	for i, x := range l {
		if !(told{x: x}).is(want[i]) {
			t.Errorf("the list: %v, want %v", x, want[i])
		}
	}
	whole := append(was, 0, 0, 0) // behind the end of what is handed in
	toldIs(t, false, whole[:15], slowAll(false, bytes.Clone(whole[:15])))
	toldIs(t, false, whole[:8], want[:1])
}

// P4.3: the things, or none and ErrTlv, wherever the place is at which none begins.
func TestList(t *testing.T) {
	r := dice()
	both(func(chunk bool) {
		var b []byte
		var want []told
		for n := range 300 {
			toldIs(t, chunk, b, want)
			if l, e := List(chunk, append(bytes.Clone(b), 0, 1, 0)); len(l) != 0 || e != api.ErrTlv {
				t.Errorf("%d things, and a place where none begins: %d, error %d", n, len(l), e)
			}
			x := thing(r, chunk, r.IntN(20))
			b, want = append(b, slow(chunk, x)...), append(want, told{x: x})
		}
	})
}

// P4.4: things are put, gone over as those things, and put as those bytes again.
func TestThereAndBack(t *testing.T) {
	r := dice()
	both(func(chunk bool) {
		for range 2000 {
			var b []byte
			var want []told
			for range r.IntN(12) {
				x := thing(r, chunk, r.IntN(40))
				c, e := Put(chunk, x)
				if e != api.OK || len(c) != Size(x) {
					t.Fatalf("Put(%v, %v): %d bytes, error %d", chunk, x, len(c), e)
				}
				b, want = append(b, c...), append(want, told{x: x})
			}
			toldIs(t, chunk, b, want)
			putAgain(t, chunk, b)
		}
		for _, n := range []int{65527, 65528, 65529, 65530, 65531} {
			x := thing(r, chunk, n)
			b, _ := Put(chunk, x)
			toldIs(t, chunk, append(b, b...), []told{{x: x}, {x: x}})
			putAgain(t, chunk, b)
		}
	})
}

// P4.4: whatever bytes List tells things of, those are put as these bytes.
func TestListPutAgain(t *testing.T) {
	r := dice()
	listed := 0
	for range 200000 {
		b := row(r, 4*r.IntN(5))
		for i := range b {
			if i%4 == 2 {
				b[i] = 0
			}
			if i%4 == 3 {
				b[i] %= 12
			}
		}
		both(func(chunk bool) { listed += putAgain(t, chunk, b) })
	}
	if listed < 10000 {
		t.Errorf("only %d were to be listed", listed)
	}
}

func putAgain(t *testing.T, chunk bool, b []byte) int {
	t.Helper()
	l, e := List(chunk, b)
	if e != api.OK {
		return 0
	}
	var again []byte
	for _, x := range l {
		c, e := Put(chunk, x)
		if e != api.OK {
			t.Errorf("Put(%v, %v), which was listed: error %d", chunk, x, e)
		}
		again = append(again, c...)
	}
	if !bytes.Equal(again, b) {
		t.Errorf("%v: put again they are %v", b, again)
	}
	return 1
}

// P4.4: whatever stands behind, what is ahead is told the same.
func TestWhatStandsBehind(t *testing.T) {
	r := dice()
	both(func(chunk bool) {
		for range 5000 {
			var b []byte
			var want []told
			for range r.IntN(5) {
				x := thing(r, chunk, r.IntN(12))
				b, want = append(b, slow(chunk, x)...), append(want, told{x: x})
			}
			behind := row(r, r.IntN(30))
			l := gather(All(chunk, append(b, behind...)))
			if len(l) < len(want) || !same(l[:len(want)], want) || !same(l[len(want):], slowAll(chunk, behind)) {
				t.Errorf("%v behind %d things: %v", behind, len(want), l)
			}
		}
	})
}
