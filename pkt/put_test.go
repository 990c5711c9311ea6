package pkt

import (
	"bytes"
	"math/rand/v2"
	"slices"
	"testing"

	"lanyard/api"
	"lanyard/chunk"
	"lanyard/head"
)

func dice() *rand.Rand { return rand.New(rand.NewPCG(6, 1500)) }

func row(r *rand.Rand, n int) []byte {
	b := make([]byte, n)
	for i := range b {
		b[i] = byte(r.Uint32())
	}
	return b
}

// same: whether the chunks have the same; a list of nothing is one, nil or not.
func same(a, b api.Chunk) bool {
	numbers := func(c api.Chunk) [10]uint32 {
		return [10]uint32{uint32(c.Kind), uint32(c.Flags), c.Tag, c.Rwnd, c.Tsn, uint32(c.Out), uint32(c.In), uint32(c.Sid), uint32(c.Ssn), c.Ppid}
	}
	causes := slices.EqualFunc(a.Causes, b.Causes, func(x, y api.Cause) bool { return x.Code == y.Code && bytes.Equal(x.Data, y.Data) })
	return numbers(a) == numbers(b) && causes && bytes.Equal(a.Data, b.Data) && slices.Equal(a.Addrs, b.Addrs) && slices.Equal(a.Gaps, b.Gaps) && slices.Equal(a.Dups, b.Dups)
}

func samePacket(a, b api.Packet) bool {
	return a.Head == b.Head && slices.EqualFunc(a.Chunks, b.Chunks, same)
}

// thing is the bytes of the chunk's thing, which there are.
func thing(t *testing.T, c api.Chunk) []byte {
	t.Helper()
	b, e := chunk.Put(c)
	if e != api.OK {
		t.Fatalf("chunk.Put(kind %d): error %d", c.Kind, e)
	}
	return b
}

// raw is a packet's bytes with that body, which there are.
func raw(t *testing.T, h api.Header, body ...[]byte) []byte {
	t.Helper()
	b, e := head.Put(h, bytes.Join(body, nil))
	if e != api.OK {
		t.Fatalf("head.Put(%v): error %d", h, e)
	}
	return b
}

// slowPut is a packet's bytes as the chapter's words say them.
func slowPut(t *testing.T, p api.Packet) []byte {
	t.Helper()
	var body [][]byte
	for _, c := range p.Chunks {
		body = append(body, thing(t, c))
	}
	return raw(t, p.Head, body...)
}

func putIs(t *testing.T, p api.Packet, want []byte) {
	t.Helper()
	if b, e := Put(p); e != api.OK || !bytes.Equal(b, want) {
		t.Errorf("Put(%v, %d chunks): %v, error %d, want %v", p.Head, len(p.Chunks), b, e, want)
	}
}

func putFails(t *testing.T, p api.Packet, want api.Errno) {
	t.Helper()
	if b, e := Put(p); e != want || len(b) != 0 {
		t.Errorf("Put(%v, %d chunks): %d bytes, error %d, want error %d alone", p.Head, len(p.Chunks), len(b), e, want)
	}
}

func packet(tag uint32, l ...api.Chunk) api.Packet {
	return api.Packet{Head: api.Header{From: 0x0102, To: 0x0304, Tag: tag}, Chunks: l}
}

// someOf is a packet that may be and has not too many bytes, by chance, of kinds that are known or skip.
func someOf(r *rand.Rand) api.Packet {
	p := api.Packet{Head: api.Header{From: uint16(r.Uint32()), To: uint16(r.Uint32()), Tag: r.Uint32() | 1}}
	switch alone := r.IntN(20); alone {
	case 1:
		p.Head.Tag = 0
		fallthrough
	case 2, 14:
		p.Chunks = append(p.Chunks, chance(r, alone))
		return p
	}
	beside := []int{0, 0, 0, 3, 4, 5, 6, 7, 8, 9, 10, 11, 128, 129, 192, 255}
	for range r.IntN(6) + 1 {
		p.Chunks = append(p.Chunks, chance(r, beside[r.IntN(len(beside))]))
	}
	return p
}

// chance is a chunk of the kind that may be, by chance: up to some 200 bytes.
func chance(r *rand.Rand, kind int) api.Chunk {
	c := api.Chunk{Kind: uint8(kind)}
	switch kind {
	case 0:
		c.Flags, c.Tsn, c.Sid, c.Ssn, c.Ppid = uint8(r.IntN(8)), r.Uint32(), uint16(r.Uint32()), uint16(r.Uint32()), r.Uint32()
		c.Data = row(r, r.IntN(150)+1)
	case 1, 2:
		c.Tag, c.Rwnd, c.Out, c.In, c.Tsn = r.Uint32(), r.Uint32(), uint16(r.Uint32()), uint16(r.Uint32()), r.Uint32()
		for range r.IntN(4) {
			c.Addrs = append(c.Addrs, r.Uint32())
		}
		if kind == 2 {
			c.Data = row(r, r.IntN(150)+1)
		}
	case 3:
		c.Tsn, c.Rwnd = r.Uint32(), r.Uint32()
		for n := range r.IntN(20) {
			c.Gaps = append(c.Gaps, api.Gap{Start: uint16(9*n + 2), End: uint16(9*n + 2 + r.IntN(8))})
		}
		for range r.IntN(17) {
			c.Dups = append(c.Dups, r.Uint32())
		}
	case 6, 9:
		if kind == 6 {
			c.Flags = uint8(r.IntN(2))
		}
		for range r.IntN(5) {
			c.Causes = append(c.Causes, api.Cause{Code: uint16(r.Uint32()), Data: row(r, r.IntN(30))})
		}
	case 7:
		c.Tsn = r.Uint32()
	case 8, 11:
	case 14:
		c.Flags = uint8(r.IntN(2))
	default:
		c.Data = row(r, r.IntN(150))
		if !named(kind) {
			c.Flags = uint8(r.Uint32())
		}
	}
	return c
}

// P6.1, P6.2, P6.3: the chapter's examples.
func TestExamples(t *testing.T) {
	if n := Size(api.Chunk{Kind: api.CkShutAck}); n != 4 {
		t.Errorf("Size(CkShutAck): %d", n)
	}
	if n := Size(api.Chunk{Kind: api.CkData, Data: []byte{1}}); n != 20 {
		t.Errorf("Size(CkData of a byte): %d", n)
	}
	cookieAck, shutAck := api.Chunk{Kind: api.CkCookieAck}, api.Chunk{Kind: api.CkShutAck}
	putFails(t, packet(5), api.ErrBundle)
	putFails(t, packet(1, api.Chunk{Kind: api.CkInit}), api.ErrBundle)
	putFails(t, packet(0, cookieAck), api.ErrBundle)
	putFails(t, packet(5, api.Chunk{Kind: api.CkDone}, shutAck), api.ErrBundle)
	putFails(t, packet(5, shutAck, api.Chunk{Kind: api.CkDone}), api.ErrBundle)
	for kind, want := range map[uint8][]api.Chunk{70: {cookieAck}, 130: {cookieAck, {Kind: 130}, shutAck}} {
		b, e := Put(packet(5, cookieAck, api.Chunk{Kind: kind}, shutAck))
		if e != api.OK {
			t.Errorf("Put with kind %d: error %d", kind, e)
		}
		takeIs(t, b, packet(5, want...))
	}
}

// P6.2: where each byte stands.
func TestPutPlaces(t *testing.T) {
	b, e := Put(api.Packet{Head: api.Header{From: 0x0102, To: 0x0304, Tag: 0x05060708}, Chunks: []api.Chunk{
		{Kind: api.CkShut, Tsn: 0x090a0b0c}, {Kind: api.CkCookie, Data: []byte{13}}, {Kind: 140, Flags: 3}}})
	if e != api.OK || len(b) != 12+8+8+4 {
		t.Fatalf("Put: %v, error %d", b, e)
	}
	if want := []byte{1, 2, 3, 4, 5, 6, 7, 8}; !bytes.Equal(b[:8], want) {
		t.Errorf("the head: %v", b[:12])
	}
	if want := []byte{7, 0, 0, 8, 9, 10, 11, 12, 10, 0, 0, 5, 13, 0, 0, 0, 140, 3, 0, 4}; !bytes.Equal(b[12:], want) {
		t.Errorf("the body: %v", b[12:])
	}
	if _, _, e := head.Take(b); e != api.OK {
		t.Errorf("the sum: error %d", e)
	}
}

// P6.2, P6.4: many, as the chapter's words say them; they have Size bytes together, and 12.
func TestPut(t *testing.T) {
	r := dice()
	for range 20000 {
		p := someOf(r)
		want := slowPut(t, p)
		putIs(t, p, want)
		n := 12
		for _, c := range p.Chunks {
			n += Size(c)
		}
		if len(want) != n {
			t.Errorf("%d bytes, and their Sizes make %d", len(want), n)
		}
	}
}

// P6.2: each kind by itself, and beside another one.
func TestPutKinds(t *testing.T) {
	for kind := range 256 {
		for _, l := range [][]int{{kind}, {kind, 8}, {11, kind}, {kind, kind}} {
			for _, tag := range []uint32{0, 5} {
				p := packet(tag, leasts(l)...)
				if slowMay(l, tag) {
					putIs(t, p, slowPut(t, p))
				} else {
					putFails(t, p, api.ErrBundle)
				}
			}
		}
	}
}

// bad are chunks that may not be; long one whose bytes no thing has.
func bad() api.Chunk  { return api.Chunk{Kind: api.CkShutAck, Flags: 1} }
func long() api.Chunk { return api.Chunk{Kind: api.CkCookie, Data: make([]byte, 65532)} }

// P6.2: ErrBundle goes ahead of all; of the chunks' errors the first one's; these ahead of the packet's own.
func TestPutErrorsInOrder(t *testing.T) {
	fine, much := api.Chunk{Kind: api.CkShutAck}, api.Chunk{Kind: api.CkCookie, Data: make([]byte, 1485)}
	for _, x := range []struct {
		l []api.Chunk
		e api.Errno
	}{
		{[]api.Chunk{bad()}, api.ErrChunk},
		{[]api.Chunk{long()}, api.ErrLong},
		{[]api.Chunk{much}, api.ErrLong},
		{[]api.Chunk{fine, bad()}, api.ErrChunk},
		{[]api.Chunk{bad(), fine}, api.ErrChunk},
		{[]api.Chunk{fine, bad(), fine}, api.ErrChunk},
		{[]api.Chunk{bad(), long()}, api.ErrChunk},
		{[]api.Chunk{long(), bad()}, api.ErrLong},
		{[]api.Chunk{fine, long(), bad(), long()}, api.ErrLong},
		{[]api.Chunk{fine, bad(), long(), bad()}, api.ErrChunk},
		{[]api.Chunk{much, bad()}, api.ErrChunk},
		{[]api.Chunk{much, much, bad()}, api.ErrChunk},
		{[]api.Chunk{much, much, much, fine, bad(), fine}, api.ErrChunk},
		{[]api.Chunk{much, much, fine}, api.ErrLong},
		{[]api.Chunk{much, {Kind: api.CkData}}, api.ErrChunk},
	} {
		putFails(t, packet(5, x.l...), x.e)
		putFails(t, packet(0, x.l...), api.ErrBundle)
		for _, kind := range []int{1, 2, 14} {
			putFails(t, packet(5, append(x.l[:len(x.l):len(x.l)], least(kind))...), api.ErrBundle)
			putFails(t, packet(5, append([]api.Chunk{least(kind)}, x.l...)...), api.ErrBundle)
		}
	}
	putFails(t, packet(0, api.Chunk{Kind: api.CkInit, Flags: 1}), api.ErrChunk)
	putFails(t, packet(5, api.Chunk{Kind: api.CkInit, Flags: 1}), api.ErrBundle)
	putFails(t, packet(5, api.Chunk{Kind: api.CkInitAck}), api.ErrChunk)
	putFails(t, packet(0, api.Chunk{Kind: api.CkInitAck}), api.ErrBundle)
}

// P6.2: a packet has at most 1500 bytes, of however many chunks.
func TestPutLong(t *testing.T) {
	all := row(dice(), 3000)
	for n := range all {
		p := packet(5, api.Chunk{Kind: api.CkCookie, Data: all[:n]})
		if n <= 1484 {
			putIs(t, p, slowPut(t, p))
		} else {
			putFails(t, p, api.ErrLong)
		}
		for _, first := range []int{1, 700, 1400} {
			p := packet(5, api.Chunk{Kind: api.CkBeat, Data: all[:first]}, api.Chunk{Kind: api.CkData, Data: all[:n+1]})
			if 12+up(4+first)+up(16+n+1) <= 1500 {
				putIs(t, p, slowPut(t, p))
			} else {
				putFails(t, p, api.ErrLong)
			}
		}
	}
	var l []api.Chunk
	for n := 1; n < 1000; n++ {
		l = append(l, api.Chunk{Kind: api.CkShutAck})
		if p := packet(5, l...); n <= 372 {
			putIs(t, p, slowPut(t, p))
		} else {
			putFails(t, p, api.ErrLong)
		}
	}
}

// P6.2: many chunks of many bytes: their errors are told all the same.
func TestPutMuch(t *testing.T) {
	l := make([]api.Chunk, 3000)
	most := make([]byte, 65531)
	for i := range l {
		l[i] = api.Chunk{Kind: api.CkCookie, Data: most}
	}
	putFails(t, packet(5, l...), api.ErrLong)
	putFails(t, packet(5, append(l, bad())...), api.ErrChunk)
	putFails(t, packet(5, append(l, long(), bad())...), api.ErrLong)
	putFails(t, packet(0, l...), api.ErrBundle)
	putFails(t, packet(5, make([]api.Chunk, 100000)...), api.ErrChunk)
}

// scribble changes all lists of the chunk, up to what they have room for.
func scribble(c *api.Chunk) {
	turn := func(b []byte) {
		for i := range b[:cap(b)] {
			b[:cap(b)][i] ^= 255
		}
	}
	turn(c.Data)
	for i := range c.Addrs[:cap(c.Addrs)] {
		c.Addrs[:cap(c.Addrs)][i]++
	}
	for i := range c.Dups[:cap(c.Dups)] {
		c.Dups[:cap(c.Dups)][i]++
	}
	for i := range c.Gaps[:cap(c.Gaps)] {
		c.Gaps[:cap(c.Gaps)][i].End++
	}
	for _, x := range c.Causes[:cap(c.Causes)] {
		turn(x.Data)
	}
	for i := range c.Causes[:cap(c.Causes)] {
		c.Causes[:cap(c.Causes)][i].Code++
	}
}

// P6.2: in a list of its own; what is handed in stays as it is.
func TestPutOwn(t *testing.T) {
	r := dice()
	for range 1000 {
		p := someOf(r)
		want := slowPut(t, p)
		b, _ := Put(p)
		c, _ := Put(p)
		for i := range b[:cap(b)] {
			b[:cap(b)][i] ^= 255
		}
		if !bytes.Equal(c, want) || !bytes.Equal(slowPut(t, p), want) {
			t.Error("a packet's bytes share memory with the packet, or with another answer")
		}
		for i := range p.Chunks {
			scribble(&p.Chunks[i])
		}
		clear(p.Chunks[:cap(p.Chunks)])
		if !bytes.Equal(c, want) {
			t.Error("a packet's bytes go with the packet")
		}
	}
}
