package pkt

import (
	"testing"

	"lanyard/api"
	"lanyard/chunk"
)

// tags are 0, and some at the edges of what is not.
func tags() []uint32 { return []uint32{0, 1, 7, 255, 256, 65535, 65536, 1 << 31, 4294967295} }

// named are the kinds that stand in chapter 5 by name, by their numbers.
func named(kind int) bool { return kind <= 11 || kind == 14 }

// least is a chunk of the kind with as little as it may have.
func least(kind int) api.Chunk {
	c := api.Chunk{Kind: uint8(kind)}
	if kind == 0 || kind == 2 {
		c.Data = []byte{9}
	}
	return c
}

func leasts(kinds []int) (l []api.Chunk) {
	for _, k := range kinds {
		l = append(l, least(k))
	}
	return l
}

// slowMay: whether chunks of the kinds may be together, word by word as the chapter says it.
func slowMay(kinds []int, tag uint32) bool {
	if len(kinds) == 0 {
		return false
	}
	count := map[int]int{}
	for _, k := range kinds {
		count[k]++
	}
	if count[1]+count[2]+count[14] > 0 && len(kinds) != 1 {
		return false
	}
	if count[1] == 1 {
		return tag == 0
	}
	return tag != 0
}

func mayIs(t *testing.T, kinds []int, tag uint32) {
	t.Helper()
	want := slowMay(kinds, tag)
	p := api.Packet{Head: api.Header{Tag: tag}, Chunks: leasts(kinds)}
	if May(p) != want {
		t.Errorf("May(tag %d, kinds %v): not %v", tag, kinds, want)
	}
	p.Head.From, p.Head.To = 1, 2
	if May(p) != want {
		t.Errorf("May(tag %d, kinds %v, with ports): not %v", tag, kinds, want)
	}
	if _, e := Put(p); (e == api.OK) != want || !want && e != api.ErrBundle {
		t.Errorf("Put(tag %d, kinds %v): error %d, and May is to be %v", tag, kinds, e, want)
	}
}

// P6.1: no chunks, with each tag.
func TestMayOfNone(t *testing.T) {
	for _, tag := range tags() {
		mayIs(t, nil, tag)
		if May(api.Packet{Head: api.Header{Tag: tag}, Chunks: []api.Chunk{}}) {
			t.Errorf("an empty list, tag %d", tag)
		}
	}
}

// P6.1: each kind by itself, with each tag; two of each, in each order.
func TestMayOneAndTwo(t *testing.T) {
	for a := range 256 {
		for _, tag := range tags() {
			mayIs(t, []int{a}, tag)
		}
		for b := range 256 {
			mayIs(t, []int{a, b}, 0)
			mayIs(t, []int{a, b}, 5)
		}
	}
}

// P6.1: all rows of up to five out of some kinds.
func TestMayRows(t *testing.T) {
	some := []int{0, 1, 2, 3, 10, 14, 70, 130}
	var rows func(l []int)
	rows = func(l []int) {
		mayIs(t, l, 0)
		mayIs(t, l, 1<<31)
		if len(l) == 5 {
			return
		}
		for _, k := range some {
			rows(append(l[:len(l):len(l)], k))
		}
	}
	rows(nil)
}

// P6.1: one that stands alone, anywhere among many others; many of one kind.
func TestMayMany(t *testing.T) {
	for kind := range 256 {
		for n := range 40 {
			l := make([]int, 39)
			for i := range l {
				l[i] = 8
			}
			if n < 39 {
				l[n] = kind
			}
			mayIs(t, l, 3)
		}
		l := make([]int, 100)
		for i := range l {
			l[i] = kind
		}
		if want := slowMay(l, 9); May(api.Packet{Head: api.Header{Tag: 9}, Chunks: leasts(l)}) != want {
			t.Errorf("a hundred of kind %d: not %v", kind, want)
		}
	}
}

// P6.1: whether each of them may be (5), and what they have, makes no difference to May.
func TestMayAsksOfKindsAlone(t *testing.T) {
	full := func(kind int) api.Chunk {
		return api.Chunk{Kind: uint8(kind), Flags: 255, Tag: 1, Rwnd: 1, Tsn: 1, Out: 1, In: 1, Sid: 1, Ssn: 1, Ppid: 1, Data: make([]byte, 70000),
			Addrs: make([]uint32, 9), Gaps: make([]api.Gap, 99), Dups: make([]uint32, 99), Causes: make([]api.Cause, 9)}
	}
	for a := range 256 {
		if chunk.May(full(a)) {
			t.Fatalf("kind %d: was to be one that may not be", a)
		}
		for _, tag := range []uint32{0, 5} {
			if May(api.Packet{Head: api.Header{Tag: tag}, Chunks: []api.Chunk{full(a)}}) != slowMay([]int{a}, tag) {
				t.Errorf("kind %d, tag %d, that may not be", a, tag)
			}
			for _, b := range []int{0, 1, 2, 6, 14, 200} {
				if May(api.Packet{Head: api.Header{Tag: tag}, Chunks: []api.Chunk{full(a), full(b)}}) != slowMay([]int{a, b}, tag) {
					t.Errorf("kinds %d and %d, tag %d, that may not be", a, b, tag)
				}
			}
		}
	}
}

func sizeIs(t *testing.T, c api.Chunk, want int) {
	t.Helper()
	if n := Size(c); n != want {
		t.Errorf("Size(kind %d, %d bytes of Data): %d, want %d", c.Kind, len(c.Data), n, want)
	}
}

// up is the next multiple of 4.
func up(n int) int {
	for n%4 != 0 {
		n++
	}
	return n
}

// P6.1: how many bytes a chunk has, of each kind, with as much Data as it may have, and one byte more.
func TestSizeOfData(t *testing.T) {
	all := make([]byte, 65600)
	for kind := range 256 {
		ahead, most := 4, 65535-4
		switch kind {
		case 0:
			ahead, most = 16, 65535-16
		case 2:
			ahead, most = 24, 65532-24
		case 1, 3, 6, 7, 8, 9, 11, 14:
			continue // these have none
		}
		for _, n := range []int{0, 1, 2, 3, 4, 5, 6, 7, 8, 9, 100, 101, 1000, 1483, 1484, 1485, 1486, 1500, 8192, most - 1, most, most + 1, most + 5, 65600} {
			c := api.Chunk{Kind: uint8(kind), Data: all[:n]}
			if n > most || n == 0 && (kind == 0 || kind == 2) {
				sizeIs(t, c, 0)
			} else {
				sizeIs(t, c, up(ahead+n))
			}
		}
	}
}

// P6.1: how many bytes chunks have that have no Data.
func TestSizeOfOthers(t *testing.T) {
	for n := range 4 {
		sizeIs(t, api.Chunk{Kind: api.CkInit, Addrs: make([]uint32, n)}, 20+8*n)
		sizeIs(t, api.Chunk{Kind: api.CkInitAck, Addrs: make([]uint32, n), Data: []byte{1}}, 28+8*n)
	}
	var gaps []api.Gap
	for n := range 65 {
		for dups := range 17 {
			sizeIs(t, api.Chunk{Kind: api.CkSack, Gaps: gaps, Dups: make([]uint32, dups)}, 16+4*n+4*dups)
		}
		gaps = append(gaps, api.Gap{Start: uint16(2*n + 2), End: uint16(2*n + 2)})
	}
	for _, kind := range []uint8{api.CkAbort, api.CkError} {
		for n := range 9 {
			sizeIs(t, api.Chunk{Kind: kind, Causes: []api.Cause{{}, {Data: make([]byte, n)}}}, 4+4+up(4+n))
		}
	}
	sizeIs(t, api.Chunk{Kind: api.CkShut, Tsn: 5}, 8)
	for _, kind := range []uint8{api.CkShutAck, api.CkCookieAck, api.CkDone, api.CkAbort, api.CkError} {
		sizeIs(t, api.Chunk{Kind: kind}, 4)
	}
	sizeIs(t, api.Chunk{Kind: api.CkDone, Flags: api.FlNoTag}, 4)
}

// P6.1: no bytes of a chunk that may not be.
func TestSizeOfNone(t *testing.T) {
	for kind := range 256 {
		c := least(kind)
		c.Gaps = []api.Gap{{Start: 1, End: 1}}
		sizeIs(t, c, 0)
		c = least(kind)
		c.Addrs = make([]uint32, 4)
		sizeIs(t, c, 0)
		if c = least(kind); named(kind) {
			c.Flags = 128
			sizeIs(t, c, 0)
		}
	}
	sizeIs(t, api.Chunk{Kind: api.CkData}, 0)
	sizeIs(t, api.Chunk{Kind: api.CkShutAck, Data: []byte{1}}, 0)
	sizeIs(t, api.Chunk{Kind: api.CkError, Causes: []api.Cause{{Data: make([]byte, 65532)}}}, 0)
}
