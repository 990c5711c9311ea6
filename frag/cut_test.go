package frag

import (
	"bytes"
	"math"
	"slices"
	"testing"

	"lanyard/api"
)

// row is so many bytes, of which those near each other are unlike.
func row(n int) []byte {
	b := make([]byte, n)
	for i := range b {
		b[i] = byte(i + i/251 + 1)
	}
	return b
}

func samePiece(a, b api.Piece) bool {
	return a.Tsn == b.Tsn && a.Flags == b.Flags && a.Sid == b.Sid && a.Ssn == b.Ssn && a.Ppid == b.Ppid && bytes.Equal(a.Data, b.Data)
}

// slowCut is the chapter's words: byte by byte, a new piece where the last one is full.
func slowCut(m api.Message, size int) (l []api.Piece) {
	for i, x := range m.Data {
		if i == 0 || len(l[len(l)-1].Data) == size {
			l = append(l, api.Piece{Sid: m.Sid, Ppid: m.Ppid})
		}
		p := &l[len(l)-1]
		p.Data = append(p.Data, x)
		if i == 0 {
			p.Flags += 2
		}
		if i == len(m.Data)-1 {
			p.Flags++
		}
	}
	for i := range l {
		if m.Unordered {
			l[i].Flags += 4
		}
	}
	return l
}

func cutIs(t *testing.T, m api.Message, size int, want []api.Piece) {
	t.Helper()
	l, e := Cut(m, size)
	if e != api.OK || !slices.EqualFunc(l, want, samePiece) {
		t.Fatalf("Cut(%v, %d): %v, %d; want %v", m, size, l, e, want)
	}
}

// P9.1: the chapter's example, and others written out.
func TestCutExamples(t *testing.T) {
	m := api.Message{Sid: 3, Data: []byte("abcde")}
	cutIs(t, m, 2, []api.Piece{{Flags: 2, Sid: 3, Data: []byte("ab")}, {Sid: 3, Data: []byte("cd")}, {Flags: 1, Sid: 3, Data: []byte("e")}})
	m = api.Message{Sid: 65535, Unordered: true, Ppid: 1<<32 - 1, Data: []byte("abcd")}
	cutIs(t, m, 2, []api.Piece{{Flags: 6, Sid: 65535, Ppid: 1<<32 - 1, Data: []byte("ab")}, {Flags: 5, Sid: 65535, Ppid: 1<<32 - 1, Data: []byte("cd")}})
	cutIs(t, m, 3, []api.Piece{{Flags: 6, Sid: 65535, Ppid: 1<<32 - 1, Data: []byte("abc")}, {Flags: 5, Sid: 65535, Ppid: 1<<32 - 1, Data: []byte("d")}})
	for _, size := range []int{4, 5, 8, 1 << 31, math.MaxInt - 1, math.MaxInt} {
		cutIs(t, m, size, []api.Piece{{Flags: 7, Sid: 65535, Ppid: 1<<32 - 1, Data: []byte("abcd")}})
	}
	cutIs(t, api.Message{Data: []byte{0}}, 1, []api.Piece{{Flags: 3, Data: []byte{0}}})
}

// P9.1: a message of no bytes, and sizes below 1.
func TestCutErrors(t *testing.T) {
	sizes := []int{math.MinInt, math.MinInt + 1, -1 << 32, -65536, -2, -1, 0}
	bad := func(m api.Message, size int) {
		t.Helper()
		if l, e := Cut(m, size); e != api.ErrArg || len(l) != 0 {
			t.Errorf("Cut(%v, %d): %v, %d", m, size, l, e)
		}
	}
	for _, unordered := range []bool{false, true} {
		for _, data := range [][]byte{nil, {}, row(3)[:0]} {
			for _, size := range append(sizes, 1, 2, 1500, math.MaxInt) {
				bad(api.Message{Sid: 3, Unordered: unordered, Ppid: 4, Data: data}, size)
			}
		}
		for _, n := range []int{1, 2, 3, 1500} {
			for _, size := range sizes {
				bad(api.Message{Sid: 3, Unordered: unordered, Ppid: 4, Data: row(n)}, size)
			}
		}
	}
}

// P9.1: every few bytes by every few sizes, held against the words.
func TestCutAgainstTheWords(t *testing.T) {
	for n := 1; n <= 70; n++ {
		for size := 1; size <= 75; size++ {
			for _, m := range []api.Message{{Data: row(n)}, {Unordered: true, Data: row(n)}, {Sid: 15, Ppid: 77, Data: row(n)}, {Sid: 40000, Unordered: true, Ppid: 3 << 30, Data: row(n)}} {
				cutIs(t, m, size, slowCut(m, size))
			}
		}
	}
}

// P9.1: long messages, with sizes about those that make the last piece full.
func TestCutLong(t *testing.T) {
	for _, n := range []int{1000, 1472, 8191, 8192, 100000} {
		for _, size := range []int{1, 2, 36, 228, 255, 256, 257, n/3 - 1, n / 3, n/3 + 1, n / 2, n/2 + 1, n - 1, n, n + 1} {
			m := api.Message{Sid: 1, Ppid: 2, Data: row(n)}
			cutIs(t, m, size, slowCut(m, size))
		}
	}
}

// P9.1: the pieces are in bytes of their own: neither the message nor another piece knows what is written into one, or put behind it.
func TestCutOwnBytes(t *testing.T) {
	for _, n := range []int{1, 2, 5, 6, 7, 64, 100} {
		for _, size := range []int{1, 2, 3, 7, 50, 200} {
			m := api.Message{Data: row(n)}
			l, _ := Cut(m, size)
			want := slowCut(m, size)
			for i := range l {
				b := l[i].Data[:cap(l[i].Data)]
				for k := range b {
					b[k] = 0
				}
				clear(want[i].Data)
				if !slices.EqualFunc(l, want, samePiece) || !bytes.Equal(m.Data, row(n)) {
					t.Fatalf("%d bytes by %d: piece %d is not in bytes of its own", n, size, i)
				}
			}
			l, _ = Cut(m, size)
			clear(m.Data)
			if !slices.EqualFunc(l, slowCut(api.Message{Data: row(n)}, size), samePiece) {
				t.Fatalf("%d bytes by %d: the message's bytes are kept", n, size)
			}
		}
	}
}

// P9.1: what stands behind a message's bytes, in the same memory, is no part of it.
func TestCutOfAPart(t *testing.T) {
	all := row(20)
	m := api.Message{Data: all[5:12]}
	cutIs(t, m, 3, slowCut(api.Message{Data: row(20)[5:12]}, 3))
	cutIs(t, m, 20, slowCut(api.Message{Data: row(20)[5:12]}, 20))
	if !bytes.Equal(all, row(20)) {
		t.Error(all)
	}
}
