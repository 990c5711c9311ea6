package pkt

import (
	"bytes"
	"math/rand/v2"
	"testing"

	"lanyard/api"
	"lanyard/chunk"
	"lanyard/head"
)

func takeIs(t *testing.T, b []byte, want api.Packet) {
	t.Helper()
	if p, e := Take(b); e != api.OK || !samePacket(p, want) {
		t.Errorf("Take(%v): %+v, error %d, want %+v", b, p, e, want)
	}
}

func takeFails(t *testing.T, b []byte, want api.Errno) {
	t.Helper()
	p, e := Take(b)
	if e != want || p.Head != (api.Header{}) || len(p.Chunks) != 0 {
		t.Errorf("Take(%v): %+v, error %d, want error %d alone", b[:min(len(b), 60)], p, e, want)
	}
}

// taken is what the chapter's words say of bytes, with what chapters 3 and 5 say of a head and a chunk.
func taken(b []byte) (api.Packet, api.Errno) {
	h, body, e := head.Take(b)
	if e != api.OK {
		return api.Packet{}, e
	}
	p := api.Packet{Head: h}
	var kinds []int
	for len(body) > 0 {
		if len(body) < 4 {
			return api.Packet{}, api.ErrTlv
		}
		kind, length := int(body[0]), int(body[2])*256+int(body[3])
		if length < 4 || up(length) > len(body) || !bytes.Equal(body[length:up(length)], make([]byte, up(length)-length)) {
			return api.Packet{}, api.ErrTlv
		}
		if !named(kind) && kind < 128 {
			break
		}
		c, e := chunk.Take(api.Tlv{Kind: uint16(kind), Flags: body[1], Value: body[4:length]})
		if e != api.OK {
			return api.Packet{}, e
		}
		p.Chunks, kinds, body = append(p.Chunks, c), append(kinds, kind), body[up(length):]
	}
	if !slowMay(kinds, h.Tag) {
		return api.Packet{}, api.ErrBundle
	}
	return p, api.OK
}

// takeFits: what becomes of the bytes is what the chapter's words say; it tells the error.
func takeFits(t *testing.T, b []byte) api.Errno {
	t.Helper()
	want, e := taken(b)
	if e == api.OK {
		takeIs(t, b, want)
	} else {
		takeFails(t, b, e)
	}
	return e
}

// parts are bytes of bodies: things that are chunks, that are none, that end the body, and no things.
func parts() [][]byte {
	return [][]byte{
		{11, 0, 0, 4},              // a chunk
		{7, 0, 0, 8, 1, 2, 3, 4},   // another one
		{130, 9, 0, 5, 1, 0, 0, 0}, // one that skips
		{14, 0, 0, 4},              // one that stands alone
		{11, 1, 0, 4},              // flags that may not be
		{7, 0, 0, 5, 1, 0, 0, 0},   // too few bytes
		{70, 9, 0, 5, 1, 0, 0, 0},  // what is behind is not looked at
		{12, 0, 0, 4},              // likewise
		{11, 0, 0, 5, 0, 0, 0, 1},  // no thing
		{70, 0, 0, 3},              // likewise
		{130, 0, 0, 200},           // likewise
	}
}

// P6.3: all rows of up to four of these, with a tag and with none.
func TestTakeRows(t *testing.T) {
	count := map[api.Errno]int{}
	var rows func(n int, body []byte)
	rows = func(n int, body []byte) {
		for _, tag := range []uint32{0, 1 << 16} {
			count[takeFits(t, raw(t, api.Header{From: 3, To: 4, Tag: tag}, body))]++
		}
		if n == 4 {
			return
		}
		for _, p := range parts() {
			rows(n+1, append(body[:len(body):len(body)], p...))
		}
	}
	rows(0, nil)
	for _, e := range []api.Errno{api.OK, api.ErrTlv, api.ErrChunk, api.ErrBundle} {
		if count[e] < 100 {
			t.Errorf("error %d: only %d rows", e, count[e])
		}
	}
}

// P6.3: each error of the head goes ahead of what the body has.
func TestTakeHead(t *testing.T) {
	for _, body := range append(parts(), nil) {
		b := raw(t, api.Header{From: 1, To: 2, Tag: 3}, body)
		for n := range b {
			want := api.ErrSum
			if n < 12 {
				want = api.ErrShort
			} else if n%4 != 0 {
				want = api.ErrAlign
			}
			takeFails(t, b[:n], want)
		}
		for at := range b {
			for bit := range 8 {
				c := bytes.Clone(b)
				c[at] ^= 1 << bit
				takeFails(t, c, api.ErrSum)
			}
		}
		for n := 1; n < 8; n++ {
			want := api.ErrAlign
			if n == 4 {
				want = api.ErrSum
			}
			takeFails(t, append(bytes.Clone(b), make([]byte, n)...), want)
		}
		takeFails(t, append(bytes.Clone(b), make([]byte, 1501)...), api.ErrLong)
	}
	takeFails(t, nil, api.ErrShort)
	takeFails(t, make([]byte, 12), api.ErrSum)
	for _, n := range []int{1501, 1502, 1504, 65536, 1 << 20} {
		takeFails(t, make([]byte, n), api.ErrLong)
	}
}

// P6.3: a packet without chunks, and one of 1500 bytes.
func TestTakeFewAndMany(t *testing.T) {
	for _, tag := range tags() {
		takeFails(t, raw(t, api.Header{From: 1, To: 2, Tag: tag}), api.ErrBundle)
	}
	var l []api.Chunk
	for range 372 {
		l = append(l, api.Chunk{Kind: api.CkShutAck})
	}
	takeIs(t, slowPut(t, packet(5, l...)), packet(5, l...))
	whole := packet(5, api.Chunk{Kind: api.CkData, Tsn: 1, Data: row(dice(), 1472)})
	takeIs(t, slowPut(t, whole), whole)
}

// P6.3: each kind with each of some tags, alone and beside others.
func TestTakeKinds(t *testing.T) {
	for kind := range 256 {
		one := thing(t, least(kind))
		for _, tag := range tags() {
			h := api.Header{From: 1, To: 2, Tag: tag}
			for _, beside := range parts() {
				takeFits(t, raw(t, h, one, beside))
				takeFits(t, raw(t, h, beside, one))
			}
			takeFits(t, raw(t, h, one, one))
			want := api.ErrBundle
			if (named(kind) || kind >= 128) && (tag == 0) == (kind == 1) {
				want = api.OK
			}
			if e := takeFits(t, raw(t, h, one)); e != want {
				t.Errorf("kind %d, tag %d: error %d, want %d", kind, tag, e, want)
			}
		}
	}
}

// P6.3: of what is behind a kind that is not known and does not skip, whatever it is, nothing is looked at; the thing itself is.
func TestTakeEnds(t *testing.T) {
	r := dice()
	ahead := packet(5, api.Chunk{Kind: api.CkCookie, Data: []byte{1, 2, 3}}, api.Chunk{Kind: 200})
	first := [][]byte{thing(t, ahead.Chunks[0]), thing(t, ahead.Chunks[1])}
	for kind := range 128 {
		if named(kind) {
			continue
		}
		k := byte(kind)
		for _, end := range [][]byte{{k, 0, 0, 4}, {k, 255, 0, 7, 9, 9, 9, 0}, {k, 1, 0, 8, 0, 0, 0, 0}} {
			for n := range 20 {
				takeIs(t, raw(t, ahead.Head, first[0], first[1], end, row(r, 4*n)), ahead)
				takeFails(t, raw(t, ahead.Head, end, row(r, 4*n)), api.ErrBundle)
			}
			for _, x := range parts() {
				takeIs(t, raw(t, ahead.Head, first[0], first[1], end, x), ahead)
				takeFails(t, raw(t, api.Header{Tag: 0}, first[0], end, x), api.ErrBundle)
			}
			takeFails(t, raw(t, ahead.Head, []byte{11, 1, 0, 4}, end), api.ErrChunk)
			takeFails(t, raw(t, ahead.Head, first[0], []byte{14, 0, 0, 4}, end), api.ErrBundle)
			takeFails(t, raw(t, api.Header{Tag: 6}, thing(t, least(1)), end), api.ErrBundle)
			takeIs(t, raw(t, api.Header{Tag: 0}, thing(t, least(1)), end, thing(t, least(11))), api.Packet{Chunks: []api.Chunk{least(1)}})
			takeIs(t, raw(t, api.Header{Tag: 6}, thing(t, least(14)), end, thing(t, least(11))), api.Packet{Head: api.Header{Tag: 6}, Chunks: []api.Chunk{least(14)}})
		}
		for _, none := range [][]byte{{k, 0, 0, 3}, {k, 0, 0, 5}, {k, 0, 0, 5, 1, 1, 0, 0}, {k, 0, 255, 255}, {k, 0, 0, 9, 1, 1, 1, 1}} {
			takeFails(t, raw(t, ahead.Head, first[0], none), api.ErrTlv)
		}
	}
}

// P6.3: kinds that skip are chunks of the packet, with their flags and bytes, and what is behind them is looked at.
func TestTakeSkips(t *testing.T) {
	r := dice()
	for kind := 128; kind < 256; kind++ {
		for n := range 30 {
			c := api.Chunk{Kind: uint8(kind), Flags: uint8(r.Uint32()), Data: row(r, n)}
			p := packet(5, least(11), c, least(8))
			takeIs(t, slowPut(t, p), p)
			takeFails(t, raw(t, p.Head, thing(t, c), []byte{11, 0, 0, 3}), api.ErrTlv)
			takeFails(t, raw(t, p.Head, thing(t, c), []byte{11, 1, 0, 4}), api.ErrChunk)
			takeFails(t, raw(t, p.Head, thing(t, c), thing(t, least(2))), api.ErrBundle)
		}
	}
}

// P6.3: a chunk that is none, wherever it stands, of each kind.
func TestTakeNoChunk(t *testing.T) {
	for kind := range 256 {
		for flags := range 256 {
			b := thing(t, least(kind))
			b[1] = byte(flags)
			for _, l := range [][][]byte{{b}, {thing(t, least(8)), b}, {b, thing(t, least(8))}} {
				takeFits(t, raw(t, api.Header{Tag: 5}, l...))
			}
		}
		for n := range 30 {
			b := append([]byte{byte(kind), 0, 0, byte(n + 4)}, make([]byte, up(n))...)
			takeFits(t, raw(t, api.Header{Tag: 5}, b))
			takeFits(t, raw(t, api.Header{Tag: 5}, thing(t, least(8)), b, thing(t, least(8))))
		}
	}
	h := api.Header{Tag: 5}
	takeFails(t, raw(t, h, []byte{1, 0, 0, 4}), api.ErrChunk)
	takeFails(t, raw(t, api.Header{}, []byte{1, 0, 0, 4}), api.ErrChunk)
	takeFails(t, raw(t, h, []byte{1, 0, 0, 4, 11, 0, 0, 3}), api.ErrChunk)
	takeFails(t, raw(t, h, []byte{14, 0, 0, 4, 14, 2, 0, 4}), api.ErrChunk)
	takeFails(t, raw(t, h, []byte{14, 0, 0, 4, 14, 0, 0, 3}), api.ErrTlv)
	takeFails(t, raw(t, h, []byte{14, 0, 0, 4, 14, 0, 0, 4}), api.ErrBundle)
}

// P6.4: what is put is taken as it was.
func TestPutAndTake(t *testing.T) {
	r := dice()
	for range 20000 {
		p := someOf(r)
		b, e := Put(p)
		if e != api.OK {
			t.Fatalf("Put(%+v): error %d", p, e)
		}
		takeIs(t, b, p)
	}
}

// P6.4: what is put is taken up to the first kind that is not known and does not skip.
func TestPutAndTakeEnds(t *testing.T) {
	r := dice()
	for range 20000 {
		p := someOf(r)
		if May(packet(5, p.Chunks[0], least(8))) {
			at := r.IntN(len(p.Chunks) + 1)
			end := chance(r, []int{12, 13, 15, 63, 64, 70, 127}[r.IntN(7)])
			whole := api.Packet{Head: p.Head, Chunks: append(append(p.Chunks[:at:at], end), p.Chunks[at:]...)}
			b, e := Put(whole)
			if e != api.OK {
				t.Fatalf("Put(%+v): error %d", whole, e)
			}
			if at == 0 {
				takeFails(t, b, api.ErrBundle)
			} else {
				takeIs(t, b, api.Packet{Head: p.Head, Chunks: p.Chunks[:at]})
			}
		}
	}
	for kind := range 128 {
		if !named(kind) {
			b, _ := Put(packet(5, least(kind)))
			takeFails(t, b, api.ErrBundle)
		}
	}
}

// P6.3: in memory of its own, each chunk's too; what is handed in stays as it is.
func TestTakeOwn(t *testing.T) {
	r := dice()
	for range 1000 {
		was := someOf(r)
		b := slowPut(t, was)
		whole := append(bytes.Clone(b), 1, 2, 3, 4)
		p, _ := Take(whole[:len(b)])
		q, _ := Take(whole[:len(b)])
		for i := range q.Chunks {
			scribble(&q.Chunks[i])
			for j := i + 1; j < len(q.Chunks); j++ {
				if !same(q.Chunks[j], was.Chunks[j]) {
					t.Errorf("chunks %d and %d share memory", i, j)
				}
			}
		}
		clear(q.Chunks[:cap(q.Chunks)])
		if !samePacket(p, was) || !bytes.Equal(whole, append(bytes.Clone(b), 1, 2, 3, 4)) {
			t.Error("an answer shares memory with the bytes, or with another one")
		}
		clear(whole)
		if !samePacket(p, was) {
			t.Error("the packet goes with the bytes")
		}
	}
}

// turned is a body in which some bytes are otherwise.
func turned(r *rand.Rand, body []byte) []byte {
	b := bytes.Clone(body)
	for range r.IntN(3) {
		b[r.IntN(len(b))] = byte(r.IntN(20))
	}
	return b
}

// P6.3, P6.4: bodies by chance, and those of packets with bytes that are otherwise; what is taken is put, and taken as it is.
func TestTakeByChance(t *testing.T) {
	r := dice()
	usual := []byte{0, 0, 0, 0, 0, 4, 4, 5, 8, 11, 12, 14, 70, 130}
	count := map[api.Errno]int{}
	for n := range 100000 {
		body := make([]byte, 4*r.IntN(8))
		for i := range body {
			body[i] = usual[r.IntN(len(usual))]
		}
		if n%2 == 0 {
			body = turned(r, slowPut(t, someOf(r))[12:])
		}
		b := raw(t, api.Header{From: 1, To: 2, Tag: uint32(r.IntN(3))}, body)
		e := takeFits(t, b)
		count[e]++
		if e == api.OK {
			p, _ := Take(b)
			putIs(t, p, slowPut(t, p))
			takeIs(t, slowPut(t, p), p)
		}
	}
	for _, e := range []api.Errno{api.OK, api.ErrTlv, api.ErrChunk, api.ErrBundle} {
		if count[e] < 1000 {
			t.Errorf("error %d: only %d times", e, count[e])
		}
	}
}
