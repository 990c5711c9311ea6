package chunk

import (
	"bytes"
	"slices"
	"testing"

	"lanyard/api"
)

// same: whether the chunks have the same; a list of nothing is one, nil or not.
func same(a, b api.Chunk) bool {
	numbers := func(c api.Chunk) [10]uint32 {
		return [10]uint32{uint32(c.Kind), uint32(c.Flags), c.Tag, c.Rwnd, c.Tsn, uint32(c.Out), uint32(c.In), uint32(c.Sid), uint32(c.Ssn), c.Ppid}
	}
	causes := slices.EqualFunc(a.Causes, b.Causes, func(x, y api.Cause) bool { return x.Code == y.Code && bytes.Equal(x.Data, y.Data) })
	return numbers(a) == numbers(b) && causes && bytes.Equal(a.Data, b.Data) && slices.Equal(a.Addrs, b.Addrs) && slices.Equal(a.Gaps, b.Gaps) && slices.Equal(a.Dups, b.Dups)
}

func takeIs(t *testing.T, x api.Tlv, want api.Chunk) {
	t.Helper()
	if c, e := Take(x); e != api.OK || !same(c, want) {
		t.Errorf("Take(%d %d, %d bytes %v): %+v, error %d, want %+v", x.Kind, x.Flags, len(x.Value), x.Value[:min(len(x.Value), 60)], c, e, want)
	}
}

func takeFails(t *testing.T, x api.Tlv) {
	t.Helper()
	c, e := Take(x)
	if e != api.ErrChunk || !same(c, api.Chunk{}) {
		t.Errorf("Take(%d %d, %d bytes %v): %+v, error %d, want ErrChunk alone", x.Kind, x.Flags, len(x.Value), x.Value[:min(len(x.Value), 60)], c, e)
	}
}

// takeFits: whether it may be taken, and, if so, P5.4 of it.
func takeFits(t *testing.T, x api.Tlv, want bool) {
	t.Helper()
	if !want {
		takeFails(t, x)
		return
	}
	c, e := Take(x)
	if e != api.OK || !May(c) || uint16(c.Kind) != x.Kind || c.Flags != x.Flags {
		t.Errorf("Take(%d %d, %d bytes): %+v, error %d", x.Kind, x.Flags, len(x.Value), c, e)
	}
	if x.Kind != 1 && x.Kind != 2 {
		putIs(t, c, thing([]byte{uint8(x.Kind), x.Flags}, x.Value))
	}
}

// P5.3: kinds above 255, whose lower byte is one that may be.
func TestTakeKinds(t *testing.T) {
	for kind := 256; kind < 65536; kind++ {
		c := least(kind % 256)
		takeFails(t, api.Tlv{Kind: uint16(kind), Value: slowValue(c)})
	}
	for kind := range 256 {
		c := least(kind)
		takeIs(t, api.Tlv{Kind: uint16(kind), Value: slowValue(c)}, c)
	}
}

// P5.3: each kind with all flags.
func TestTakeFlags(t *testing.T) {
	for kind := range 256 {
		for flags := range 256 {
			c := least(kind)
			c.Flags = uint8(flags)
			takeFits(t, api.Tlv{Kind: uint16(kind), Flags: c.Flags, Value: slowValue(c)}, May(c))
		}
	}
}

// P5.3: values of each number of bytes: all 0, which may be of numbers alone, and of any Data.
func TestTakeLengths(t *testing.T) {
	for kind := range 256 {
		for n := range 70 {
			want := true
			switch kind {
			case 0:
				want = n >= 13
			case 1:
				want = n == 16
			case 2:
				want = false // bytes 0 are no cookie
			case 3:
				want = n == 12
			case 6, 9, 8, 11, 14:
				want = n == 0
			case 7:
				want = n == 4
			}
			takeFits(t, api.Tlv{Kind: uint16(kind), Value: make([]byte, n)}, want)
		}
	}
	takeFits(t, api.Tlv{Kind: 4, Value: nil}, true)
	takeFits(t, api.Tlv{Kind: 0, Value: nil}, false)
}

// P5.3: what was put, with a byte or a few less, or more.
func TestTakeCut(t *testing.T) {
	r := dice()
	for range 40 {
		for _, kind := range []int{0, 3, 6, 7, 8, 9, 11, 14} {
			c := some(r, kind)
			b := slowValue(c)
			for i := range b {
				x := api.Tlv{Kind: uint16(kind), Flags: c.Flags, Value: b[:i]}
				switch kind {
				case 0:
					takeFits(t, x, i >= 13)
				case 6, 9:
					takeFits(t, x, ends(c, i))
				default:
					takeFails(t, x)
				}
			}
			for n := 1; n < 6; n++ {
				takeFits(t, api.Tlv{Kind: uint16(kind), Flags: c.Flags, Value: join(b, make([]byte, n))}, kind == 0)
			}
		}
	}
}

// ends: whether a cause of the chunk's ends there.
func ends(c api.Chunk, at int) bool {
	for n := range c.Causes {
		if c := (api.Chunk{Kind: c.Kind, Causes: c.Causes[:n]}); len(slowValue(c)) == at {
			return true
		}
	}
	return at == 0
}

// P5.3: an acknowledgement that tells how many gaps and dups, with others than these.
func TestTakeCounts(t *testing.T) {
	counts := []int{0, 1, 2, 15, 16, 17, 63, 64, 65, 66, 255, 256, 257, 16383, 16384, 32768, 65535}
	for _, gaps := range counts {
		for _, dups := range counts {
			for _, there := range []int{gaps + dups - 1, gaps + dups, gaps + dups + 1, 1, 0} {
				if there < 0 || there > 16000 {
					continue
				}
				b := join(wire(4, 1, 2), wire(2, uint32(gaps), uint32(dups)))
				for n := range there {
					b = append(b, wire(2, uint32(2*n+2), uint32(2*n+2))...)
				}
				takeFits(t, api.Tlv{Kind: 3, Value: b}, there == gaps+dups && gaps <= 64 && dups <= 16)
			}
		}
	}
	takeIs(t, api.Tlv{Kind: 3, Value: []byte{1, 2, 3, 4, 5, 6, 7, 8, 0, 1, 0, 2, 1, 2, 3, 4, 9, 8, 7, 6, 0, 0, 0, 1}},
		api.Chunk{Kind: 3, Tsn: 0x01020304, Rwnd: 0x05060708, Gaps: []api.Gap{{Start: 0x0102, End: 0x0304}}, Dups: []uint32{0x09080706, 1}})
	for _, g := range []api.Gap{{Start: 0, End: 0}, {Start: 1, End: 1}, {Start: 3, End: 2}, {Start: 2, End: 1}} {
		takeFails(t, api.Tlv{Kind: 3, Value: join(wire(4, 1, 2), wire(2, 1, 0, uint32(g.Start), uint32(g.End)))})
	}
	takeFails(t, api.Tlv{Kind: 3, Value: join(wire(4, 1, 2), wire(2, 2, 0, 2, 3, 4, 4))})
	takeFails(t, api.Tlv{Kind: 3, Value: join(wire(4, 1, 2), wire(2, 2, 0, 2, 65535, 1, 1))})
}

// part is a parameter, and what the chapter says becomes of it.
type part struct {
	b      []byte
	addr   int // as an address; -1: it is none
	cookie []byte
	bad    bool
	ends   bool
}

func parts() []part {
	return []part{
		{b: []byte{0, 5, 0, 8, 1, 2, 3, 4}, addr: 0x01020304},
		{b: []byte{0, 5, 0, 8, 0, 0, 0, 0}, addr: 0},
		{b: []byte{0, 7, 0, 5, 9, 0, 0, 0}, addr: -1, cookie: []byte{9}},
		{b: []byte{0, 5, 0, 7, 1, 2, 3, 0}, addr: -1, bad: true},
		{b: []byte{0, 7, 0, 4}, addr: -1, bad: true},
		{b: []byte{0, 9, 0, 6, 1, 2, 0, 0}, addr: -1, ends: true},
		{b: []byte{128, 5, 0, 4}, addr: -1},
		{b: []byte{128, 9, 0, 4, 1}, addr: -1, bad: true}, // what is behind begins a byte too late
	}
}

// slowTake is what becomes of parameters in their order, if a byte that is out of place is the last one's.
func slowTake(kind uint8, l []part) (c api.Chunk, ok bool) {
	c.Kind, ok = kind, true
	for _, p := range l {
		if p.ends {
			break
		}
		if p.bad || p.cookie != nil && (kind == 1 || c.Data != nil) || p.addr >= 0 && len(c.Addrs) == 3 {
			return c, false
		}
		if p.addr >= 0 {
			c.Addrs = append(c.Addrs, uint32(p.addr))
		}
		if p.cookie != nil {
			c.Data = p.cookie
		}
	}
	return c, kind == 1 || c.Data != nil
}

// P5.3: all rows of up to five of these parameters.
func TestTakeParameters(t *testing.T) {
	var try func(l []part)
	try = func(l []part) {
		value := make([]byte, 16)
		for _, p := range l {
			value = append(value, p.b...)
		}
		for _, kind := range []uint8{1, 2} {
			if c, ok := slowTake(kind, l); ok {
				takeIs(t, api.Tlv{Kind: uint16(kind), Value: value}, c)
			} else {
				takeFails(t, api.Tlv{Kind: uint16(kind), Value: value})
			}
		}
		if len(l) == 5 || len(l) > 0 && len(l[len(l)-1].b)%4 != 0 {
			return
		}
		for _, p := range parts() {
			try(append(slices.Clip(l), p))
		}
	}
	try(nil)
}

// P5.3: each kind of a parameter, with an address and a cookie behind.
func TestTakeParameterKinds(t *testing.T) {
	behind := join(param(5, wire(4, 258)), param(7, []byte{1, 2}))
	for kind := range 65536 {
		value := join(make([]byte, 16), param(uint32(kind), []byte{1, 2, 3}), behind)
		x := api.Tlv{Kind: 2, Value: value}
		if kind >= 32768 {
			takeIs(t, x, api.Chunk{Kind: 2, Addrs: []uint32{258}, Data: []byte{1, 2}})
		} else {
			takeFails(t, x) // 5: three bytes; 7: a second one; else: none is read
		}
		if kind == 5 || kind == 7 {
			continue
		}
		x.Value = join(make([]byte, 16), behind[:8], param(uint32(kind), nil), behind[:8])
		want := api.Chunk{Kind: 1, Addrs: []uint32{258}}
		if kind >= 32768 {
			want.Addrs = []uint32{258, 258}
		}
		x.Kind = 1
		takeIs(t, x, want)
	}
}

// P5.3: addresses of any number of bytes; how many of them; cookies of any number of bytes, and anywhere.
func TestTakeAddressesAndCookies(t *testing.T) {
	for n := range 20 {
		takeFits(t, api.Tlv{Kind: 1, Value: join(make([]byte, 16), param(5, make([]byte, n)))}, n == 4)
		takeFits(t, api.Tlv{Kind: 1, Value: join(make([]byte, 16), bytes.Repeat(param(5, wire(4, 7)), n))}, n <= 3)
		takeFits(t, api.Tlv{Kind: 2, Value: join(make([]byte, 16), param(7, make([]byte, n)))}, n > 0)
		takeFits(t, api.Tlv{Kind: 1, Value: join(make([]byte, 16), param(7, make([]byte, n)))}, false)
		takeFits(t, api.Tlv{Kind: 2, Value: join(make([]byte, 16), bytes.Repeat(param(7, wire(4, 7)), n))}, n == 1)
	}
	for at := range 4 {
		one := param(5, wire(4, 7))
		value := join(make([]byte, 16), bytes.Repeat(one, at), param(7, []byte{1}), bytes.Repeat(one, 3-at))
		takeIs(t, api.Tlv{Kind: 2, Value: value}, api.Chunk{Kind: 2, Addrs: []uint32{7, 7, 7}, Data: []byte{1}})
		takeFails(t, api.Tlv{Kind: 2, Value: join(value, one)})
	}
	// where reading ends nothing of what is behind counts
	end := param(32767, nil)
	takeIs(t, api.Tlv{Kind: 1, Value: join(make([]byte, 16), end, param(7, []byte{1}), []byte{1, 2, 3})}, api.Chunk{Kind: 1})
	takeIs(t, api.Tlv{Kind: 2, Value: join(make([]byte, 16), param(7, []byte{1}), end, param(7, nil))}, api.Chunk{Kind: 2, Data: []byte{1}})
	takeFails(t, api.Tlv{Kind: 2, Value: join(make([]byte, 16), end, param(7, []byte{1}))})
	takeFails(t, api.Tlv{Kind: 1, Value: join(make([]byte, 16), end[:3])})
	takeFails(t, api.Tlv{Kind: 1, Value: join(make([]byte, 16), []byte{0, 9, 0, 5, 1, 0, 0, 1})})
	takeIs(t, api.Tlv{Kind: 1, Value: join(make([]byte, 16), bytes.Repeat(param(32768, nil), 16000))}, api.Chunk{Kind: 1})
}

// P5.3: causes that are none, among those that are.
func TestTakeCauses(t *testing.T) {
	one := param(300, []byte{1, 2})
	for _, kind := range []uint16{6, 9} {
		takeIs(t, api.Tlv{Kind: kind, Value: join(one, param(7, nil), param(5, []byte{1}), param(40000, []byte{0, 0, 0, 0}))}, api.Chunk{Kind: uint8(kind),
			Causes: []api.Cause{{Code: 300, Data: []byte{1, 2}}, {Code: 7}, {Code: 5, Data: []byte{1}}, {Code: 40000, Data: []byte{0, 0, 0, 0}}}})
		for _, bad := range [][]byte{{0}, {0, 9, 0}, {0, 9, 0, 3}, {0, 9, 0, 5}, {0, 9, 0, 5, 1, 0, 0}, {0, 9, 0, 5, 1, 0, 0, 1}, {0, 9, 255, 255}} {
			takeFails(t, api.Tlv{Kind: kind, Value: bad})
			takeFails(t, api.Tlv{Kind: kind, Value: join(one, bad)})
			takeFails(t, api.Tlv{Kind: kind, Value: join(one, bad, one)})
		}
	}
}

// P5.3, P5.4: a value that no thing has, since its length could not be said.
func TestTakeTooLong(t *testing.T) {
	for kind := range 256 {
		for _, n := range []int{65532, 65536, 70000, 1 << 20} {
			takeFails(t, api.Tlv{Kind: uint16(kind), Value: make([]byte, n)})
		}
	}
	left := join(make([]byte, 16), bytes.Repeat(param(32768, nil), 16378))
	takeFits(t, api.Tlv{Kind: 1, Value: left}, true)
	takeFails(t, api.Tlv{Kind: 1, Value: join(left, param(32768, nil))})
	takeFits(t, api.Tlv{Kind: 4, Value: make([]byte, 65531)}, true)
}

// P5.3: in memory of its own: neither goes with the other, and no list of the answer with another one.
func TestTakeOwn(t *testing.T) {
	r := dice()
	for range 300 {
		for kind := range 16 {
			was := some(r, kind)
			value := slowValue(was)
			x := api.Tlv{Kind: uint16(kind), Flags: was.Flags, Value: value}
			c, _ := Take(x)
			d, _ := Take(x)
			scribble(&d)
			if !same(c, was) || !bytes.Equal(value, slowValue(was)) {
				t.Errorf("kind %d: an answer shares memory with the value, or with another one", kind)
			}
			for i := range value {
				value[i] ^= 255
			}
			if !same(c, was) {
				t.Errorf("kind %d: the chunk goes with the value", kind)
			}
			for i := range c.Causes {
				b := c.Causes[i].Data
				clear(b[:cap(b)])
				for j, y := range c.Causes {
					if j > i && !bytes.Equal(y.Data, was.Causes[j].Data) {
						t.Errorf("causes %d and %d share memory", i, j)
					}
				}
			}
		}
	}
}

// P5.4: things by chance, of few bytes and often with what could be a parameter's or an acknowledgement's.
func TestTakeByChance(t *testing.T) {
	r := dice()
	usual := []byte{0, 0, 0, 0, 1, 2, 4, 5, 7, 8, 128, 255}
	taken := 0
	for range 400000 {
		value := make([]byte, r.IntN(40))
		for i := range value {
			value[i] = usual[r.IntN(len(usual))]
		}
		x := api.Tlv{Kind: uint16(r.IntN(16)), Flags: uint8(r.IntN(10) / 8), Value: value}
		c, e := Take(x)
		if e != api.OK {
			takeFails(t, x)
			continue
		}
		taken++
		takeFits(t, x, true)
		if kind := c.Kind; kind == 1 || kind == 2 { // what is put of it is taken as it is
			putIs(t, c, slowPut(c))
			takeIs(t, api.Tlv{Kind: uint16(kind), Value: slowValue(c)}, c)
		}
	}
	if taken < 10000 {
		t.Errorf("only %d were taken", taken)
	}
}
