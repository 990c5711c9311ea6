package chunk

import (
	"bytes"
	"math/rand/v2"
	"testing"

	"lanyard/api"
)

func dice() *rand.Rand { return rand.New(rand.NewPCG(5, 65535)) }

func row(r *rand.Rand, n int) []byte {
	b := make([]byte, n)
	for i := range b {
		b[i] = byte(r.Uint32())
	}
	return b
}

// wire is numbers of so many bytes each, the highest byte first.
func wire(size int, l ...uint32) (b []byte) {
	for _, x := range l {
		for i := size - 1; i >= 0; i-- {
			b = append(b, byte(x>>(8*i)))
		}
	}
	return b
}

func join(l ...[]byte) []byte { return bytes.Join(l, nil) }

// thing is a thing's bytes (4), of what its kind and flags are.
func thing(ahead, value []byte) []byte {
	b := join(ahead, wire(2, uint32(len(value)+4)), value)
	for len(b)%4 != 0 {
		b = append(b, 0)
	}
	return b
}

func param(kind uint32, value []byte) []byte { return thing(wire(2, kind), value) }

// slowValue is as the chapter's table says it, in memory of its own.
func slowValue(c api.Chunk) []byte {
	var more []byte
	switch c.Kind {
	case 0:
		return join(wire(4, c.Tsn), wire(2, uint32(c.Sid), uint32(c.Ssn)), wire(4, c.Ppid), c.Data)
	case 1, 2:
		for _, a := range c.Addrs {
			more = append(more, param(5, wire(4, a))...)
		}
		if c.Kind == 2 {
			more = append(more, param(7, c.Data)...)
		}
		return join(wire(4, c.Tag, c.Rwnd), wire(2, uint32(c.Out), uint32(c.In)), wire(4, c.Tsn), more)
	case 3:
		for _, g := range c.Gaps {
			more = append(more, wire(2, uint32(g.Start), uint32(g.End))...)
		}
		return join(wire(4, c.Tsn, c.Rwnd), wire(2, uint32(len(c.Gaps)), uint32(len(c.Dups))), more, wire(4, c.Dups...))
	case 6, 9:
		for _, x := range c.Causes {
			more = append(more, param(uint32(x.Code), x.Data)...)
		}
		return more
	case 7:
		return wire(4, c.Tsn)
	}
	return join(c.Data)
}

func slowPut(c api.Chunk) []byte { return thing([]byte{c.Kind, c.Flags}, slowValue(c)) }

// some is a chunk of the kind that may be, by chance.
func some(r *rand.Rand, kind int) api.Chunk {
	c := api.Chunk{Kind: uint8(kind)}
	told := has(kind)
	for i, x := range []*uint32{&c.Tag, &c.Rwnd, &c.Tsn, &c.Ppid} {
		if told[fields()[i].name] == 1 {
			*x = r.Uint32()
		}
	}
	for i, x := range []*uint16{&c.Out, &c.In, &c.Sid, &c.Ssn} {
		if told[fields()[4+i].name] == 1 {
			*x = uint16(r.Uint32())
		}
	}
	if n := r.IntN(11); told["Data"] == 1 && n > 0 || kind == 0 || kind == 2 {
		c.Data = row(r, n+1)
	}
	switch kind {
	case 0:
		c.Flags = uint8(r.IntN(8))
	case 6, 14:
		c.Flags = uint8(r.IntN(2))
	}
	if !named(kind) {
		c.Flags = uint8(r.Uint32())
	}
	someLists(r, &c)
	return c
}

func someLists(r *rand.Rand, c *api.Chunk) {
	switch c.Kind {
	case 1, 2:
		for range r.IntN(4) {
			c.Addrs = append(c.Addrs, r.Uint32())
		}
	case 3:
		end := 0
		for range r.IntN(65) {
			start := end + 2 + r.IntN(500)
			end = start + r.IntN(500)
			c.Gaps = append(c.Gaps, api.Gap{Start: uint16(start), End: uint16(end)})
		}
		for range r.IntN(17) {
			c.Dups = append(c.Dups, r.Uint32())
		}
	case 6, 9:
		for range r.IntN(5) {
			x := api.Cause{Code: uint16(r.Uint32())}
			if n := r.IntN(9); n > 0 {
				x.Data = row(r, n)
			}
			c.Causes = append(c.Causes, x)
		}
	}
}

func putIs(t *testing.T, c api.Chunk, want []byte) {
	t.Helper()
	if b, e := Put(c); e != api.OK || !bytes.Equal(b, want) {
		t.Errorf("Put(kind %d): %v, error %d, want %v", c.Kind, b[:min(len(b), 80)], e, want[:min(len(want), 80)])
	}
}

func putFails(t *testing.T, c api.Chunk, want api.Errno) {
	t.Helper()
	if b, e := Put(c); e != want || len(b) != 0 {
		t.Errorf("Put(kind %d): %d bytes, error %d, want error %d alone", c.Kind, len(b), e, want)
	}
}

// P5.1, P5.2, P5.3: the chapter's examples.
func TestExamples(t *testing.T) {
	shut := []byte{7, 0, 0, 8, 0, 0, 1, 2}
	putIs(t, api.Chunk{Kind: api.CkShut, Tsn: 258}, shut)
	putIs(t, api.Chunk{Kind: api.CkData, Flags: api.FlBegin, Tsn: 1, Sid: 2, Ssn: 3, Ppid: 4, Data: []byte("x")},
		[]byte{0, 2, 0, 17, 0, 0, 0, 1, 0, 2, 0, 3, 0, 0, 0, 4, 120, 0, 0, 0})
	takeIs(t, api.Tlv{Kind: 7, Value: shut[4:]}, api.Chunk{Kind: api.CkShut, Tsn: 258})
	takeFails(t, api.Tlv{Kind: 7, Value: []byte{0, 0, 1, 2, 0}})
	takeFails(t, api.Tlv{Kind: 8, Value: []byte{0}})
	putFails(t, api.Chunk{Kind: api.CkSack, Gaps: []api.Gap{{Start: 1, End: 1}}}, api.ErrChunk)
	putFails(t, api.Chunk{Kind: api.CkData}, api.ErrChunk)
	if !Known(14) || !Skips(130) || Reports(130) || !Reports(64) {
		t.Error("kinds 14, 130, 64")
	}
}

// P5.2: each byte of each kind's thing.
func TestPutPlaces(t *testing.T) {
	side := []byte{1, 2, 3, 4, 5, 6, 7, 8, 9, 10, 11, 12, 13, 14, 15, 16}
	init := api.Chunk{Kind: 1, Tag: 0x01020304, Rwnd: 0x05060708, Out: 0x090a, In: 0x0b0c, Tsn: 0x0d0e0f10}
	putIs(t, init, join([]byte{1, 0, 0, 20}, side))
	init.Addrs = []uint32{0x15161718, 0x191a1b1c}
	addrs := []byte{0, 5, 0, 8, 21, 22, 23, 24, 0, 5, 0, 8, 25, 26, 27, 28}
	putIs(t, init, join([]byte{1, 0, 0, 36}, side, addrs))
	init.Kind, init.Data = 2, []byte{31, 32, 33, 34, 35}
	putIs(t, init, join([]byte{2, 0, 0, 48}, side, addrs, []byte{0, 7, 0, 9, 31, 32, 33, 34, 35, 0, 0, 0}))
	putIs(t, api.Chunk{Kind: 0, Flags: 5, Tsn: 0x01020304, Sid: 0x0506, Ssn: 0x0708, Ppid: 0x090a0b0c, Data: []byte{13, 14}},
		[]byte{0, 5, 0, 18, 1, 2, 3, 4, 5, 6, 7, 8, 9, 10, 11, 12, 13, 14, 0, 0})
	putIs(t, api.Chunk{Kind: 3, Tsn: 0x01020304, Rwnd: 0x05060708}, []byte{3, 0, 0, 16, 1, 2, 3, 4, 5, 6, 7, 8, 0, 0, 0, 0})
	putIs(t, api.Chunk{Kind: 3, Tsn: 0x01020304, Rwnd: 0x05060708, Gaps: []api.Gap{{Start: 0x0102, End: 0x0304}, {Start: 0x0506, End: 0x0708}}, Dups: []uint32{0x21222324}},
		[]byte{3, 0, 0, 28, 1, 2, 3, 4, 5, 6, 7, 8, 0, 2, 0, 1, 1, 2, 3, 4, 5, 6, 7, 8, 33, 34, 35, 36})
	for _, kind := range []byte{4, 5, 10, 12, 13, 15, 255} {
		putIs(t, api.Chunk{Kind: kind}, []byte{kind, 0, 0, 4})
		putIs(t, api.Chunk{Kind: kind, Data: []byte{1, 2, 3}}, []byte{kind, 0, 0, 7, 1, 2, 3, 0})
	}
	for _, kind := range []byte{6, 9} {
		putIs(t, api.Chunk{Kind: kind}, []byte{kind, 0, 0, 4})
		putIs(t, api.Chunk{Kind: kind, Causes: []api.Cause{{Code: 0x0102, Data: []byte{3}}, {Code: 65535}, {Data: []byte{4, 5, 6, 7}}}},
			[]byte{kind, 0, 0, 24, 1, 2, 0, 5, 3, 0, 0, 0, 255, 255, 0, 4, 0, 0, 0, 8, 4, 5, 6, 7})
	}
	putIs(t, api.Chunk{Kind: 6, Flags: 1}, []byte{6, 1, 0, 4})
	putIs(t, api.Chunk{Kind: 7, Tsn: 0x01020304}, []byte{7, 0, 0, 8, 1, 2, 3, 4})
	putIs(t, api.Chunk{Kind: 8}, []byte{8, 0, 0, 4})
	putIs(t, api.Chunk{Kind: 11}, []byte{11, 0, 0, 4})
	putIs(t, api.Chunk{Kind: 14, Flags: 1}, []byte{14, 1, 0, 4})
	putIs(t, api.Chunk{Kind: 77, Flags: 200, Data: []byte{5}}, []byte{77, 200, 0, 5, 5, 0, 0, 0})
}

// P5.2, P5.4: many of each kind, as the table says them, and taken as they were.
func TestPutAndTake(t *testing.T) {
	r := dice()
	for kind := range 256 {
		n := 20
		if named(kind) {
			n = 400
		}
		for range n {
			c := some(r, kind)
			putIs(t, c, slowPut(c))
			takeIs(t, api.Tlv{Kind: uint16(kind), Flags: c.Flags, Value: slowValue(c)}, c)
		}
	}
}

// longest is how many bytes of Data a chunk of the kind may have, if it has nothing else.
func longest(kind int) int {
	switch kind {
	case 0:
		return 65535 - 4 - 12
	case 2:
		return 65532 - 4 - 16 - 4 // a parameter's bytes are a multiple of 4
	}
	return 65535 - 4
}

// P5.2: ErrLong of Data: about the edge, and far beyond.
func TestPutLongData(t *testing.T) {
	all := row(dice(), 1<<20)
	for _, kind := range []int{0, 2, 4, 5, 10, 12, 77, 255} {
		most := longest(kind)
		for n := most - 9; n < most+9; n++ {
			c := api.Chunk{Kind: uint8(kind), Data: all[:n]}
			if n <= most {
				putIs(t, c, slowPut(c))
			} else {
				putFails(t, c, api.ErrLong)
			}
			if n <= most {
				takeIs(t, api.Tlv{Kind: uint16(kind), Value: slowValue(c)}, c)
			}
		}
		for _, n := range []int{65531, 65532, 65533, 65535, 65536, 65540, 131072, 1 << 20} {
			if n > most {
				putFails(t, api.Chunk{Kind: uint8(kind), Data: all[:n]}, api.ErrLong)
			}
		}
	}
	most := longest(2) - 3*8
	c := api.Chunk{Kind: 2, Addrs: []uint32{1, 2, 3}, Data: all[:most]}
	putIs(t, c, slowPut(c))
	c.Data = all[:most+1]
	putFails(t, c, api.ErrLong)
}

// P5.2: ErrLong of causes: of one, of one among others, and of all together.
func TestPutLongCauses(t *testing.T) {
	all := row(dice(), 1<<18)
	for _, kind := range []uint8{6, 9} {
		for n := 65510; n < 65540; n++ {
			one := api.Chunk{Kind: kind, Causes: []api.Cause{{Code: 1, Data: all[:n]}}}
			behind := api.Chunk{Kind: kind, Causes: []api.Cause{{Code: 2}, {Code: 1, Data: all[:n-4]}}}
			for _, c := range []api.Chunk{one, behind} {
				if n <= 65524 { // 65528 bytes of the parameter, 65532 of the chunk
					putIs(t, c, slowPut(c))
				} else {
					putFails(t, c, api.ErrLong)
				}
			}
		}
		var l []api.Cause
		for n := range 16400 { // 4 bytes each: 16382 of them make a length of 65532
			l = append(l, api.Cause{Code: uint16(n)})
			if n < 16370 {
				continue
			}
			if c := (api.Chunk{Kind: kind, Causes: l}); len(l) <= 16382 {
				putIs(t, c, slowPut(c))
			} else {
				putFails(t, c, api.ErrLong)
			}
		}
		putFails(t, api.Chunk{Kind: kind, Causes: []api.Cause{{Data: all}, {}}}, api.ErrLong)
		putFails(t, api.Chunk{Kind: kind, Causes: []api.Cause{{}, {Data: all[:65532]}, {}}}, api.ErrLong)
		putFails(t, api.Chunk{Kind: kind, Causes: []api.Cause{{Data: all[:40000]}, {Data: all[:40000]}, {Data: all}}}, api.ErrLong)
	}
}

// P5.2: ErrChunk goes ahead of ErrLong.
func TestPutErrorsInOrder(t *testing.T) {
	much := make([]byte, 70000)
	for kind := range 256 {
		for _, c := range []api.Chunk{
			{Flags: 8, Data: much}, {Gaps: []api.Gap{{}}, Data: much}, {Tsn: 1, Data: much, Causes: []api.Cause{{Data: much}}},
		} {
			c.Kind = uint8(kind)
			if c.Flags == 0 || named(kind) {
				putFails(t, c, api.ErrChunk)
			}
		}
	}
	putFails(t, api.Chunk{Kind: api.CkError, Flags: 1, Causes: []api.Cause{{Data: much}}}, api.ErrChunk)
	putFails(t, api.Chunk{Kind: api.CkInitAck, Addrs: make([]uint32, 4), Data: much}, api.ErrChunk)
}

// P5.2: what is handed in stays as it is, and what is told shares nothing with it.
func TestPutOwn(t *testing.T) {
	r := dice()
	for range 300 {
		for kind := range 16 {
			c := some(r, kind)
			want := slowPut(c)
			b, _ := Put(c)
			for i := range b[:cap(b)] {
				b[:cap(b)][i] ^= 255
			}
			if !bytes.Equal(slowPut(c), want) {
				t.Errorf("kind %d: the chunk goes with what is told of it", kind)
			}
			b, _ = Put(c)
			scribble(&c)
			if !bytes.Equal(b, want) {
				t.Errorf("kind %d: what is told goes with the chunk", kind)
			}
		}
	}
}

// scribble changes all lists of the chunk, up to what they have room for.
func scribble(c *api.Chunk) {
	turn := func(b []byte) {
		for i := range b[:cap(b)] {
			b[:cap(b)][i] ^= 255
		}
	}
	turn(c.Data)
	for i := range c.Addrs[:cap(c.Addrs)] {
		c.Addrs[:cap(c.Addrs)][i]++
	}
	for i := range c.Dups[:cap(c.Dups)] {
		c.Dups[:cap(c.Dups)][i]++
	}
	for i := range c.Gaps[:cap(c.Gaps)] {
		c.Gaps[:cap(c.Gaps)][i].End++
	}
	for _, x := range c.Causes[:cap(c.Causes)] {
		turn(x.Data)
	}
	for i := range c.Causes[:cap(c.Causes)] {
		c.Causes[:cap(c.Causes)][i].Code++
	}
}
