package chunk

import (
	"testing"

	"lanyard/api"
)

// named are the kinds that stand in the chapter's table by name, by their numbers.
func named(kind int) bool { return kind <= 11 || kind == 14 }

// P5.1: Known, Skips and Reports of each kind.
func TestKinds(t *testing.T) {
	for kind := range 256 {
		k, not := uint8(kind), !named(kind)
		if Known(k) == not {
			t.Errorf("Known(%d): %v", kind, Known(k))
		}
		if want := not && kind >= 128; Skips(k) != want {
			t.Errorf("Skips(%d): %v", kind, Skips(k))
		}
		if want := not && kind/64%2 == 1; Reports(k) != want {
			t.Errorf("Reports(%d): %v", kind, Reports(k))
		}
	}
}

// field is one that a chunk may have something in.
type field struct {
	name string
	set  func(*api.Chunk)
}

func fields() []field {
	return []field{
		{"Tag", func(c *api.Chunk) { c.Tag = 1 << 31 }},
		{"Rwnd", func(c *api.Chunk) { c.Rwnd = 1 << 31 }},
		{"Tsn", func(c *api.Chunk) { c.Tsn = 1 }},
		{"Ppid", func(c *api.Chunk) { c.Ppid = 1 << 16 }},
		{"Out", func(c *api.Chunk) { c.Out = 1 }},
		{"In", func(c *api.Chunk) { c.In = 1 << 15 }},
		{"Sid", func(c *api.Chunk) { c.Sid = 1 << 8 }},
		{"Ssn", func(c *api.Chunk) { c.Ssn = 1 }},
		{"Data", func(c *api.Chunk) { c.Data = []byte{0} }},
		{"Addrs", func(c *api.Chunk) { c.Addrs = []uint32{0} }},
		{"Gaps", func(c *api.Chunk) { c.Gaps = []api.Gap{{Start: 2, End: 2}} }},
		{"Dups", func(c *api.Chunk) { c.Dups = []uint32{0} }},
		{"Causes", func(c *api.Chunk) { c.Causes = []api.Cause{{}} }},
	}
}

// has are the names of what is told of the kind.
func has(kind int) map[string]int {
	side := map[string]int{"Tag": 1, "Rwnd": 1, "Out": 1, "In": 1, "Tsn": 1, "Addrs": 1}
	switch kind {
	case 0:
		return map[string]int{"Tsn": 1, "Sid": 1, "Ssn": 1, "Ppid": 1, "Data": 1}
	case 1:
		return side
	case 2:
		side["Data"] = 1
		return side
	case 3:
		return map[string]int{"Tsn": 1, "Rwnd": 1, "Gaps": 1, "Dups": 1}
	case 6, 9:
		return map[string]int{"Causes": 1}
	case 7:
		return map[string]int{"Tsn": 1}
	case 8, 11, 14:
		return nil
	}
	return map[string]int{"Data": 1}
}

// least is a chunk of the kind with as little as it may have.
func least(kind int) api.Chunk {
	c := api.Chunk{Kind: uint8(kind)}
	if kind == 0 || kind == 2 {
		c.Data = []byte{9}
	}
	return c
}

func mayIs(t *testing.T, c api.Chunk, want bool, why string) {
	t.Helper()
	if May(c) != want {
		t.Errorf("%s: May(%+v): %v", why, c, May(c))
	}
	b, e := Put(c)
	if want && (e != api.OK || len(b) == 0) || !want && (e != api.ErrChunk || len(b) != 0) {
		t.Errorf("%s: Put(%+v): %v, error %d", why, c, b, e)
	}
}

// P5.1, P5.2: of each kind, what is told of it may be there, and nothing else; and what has to be there is.
func TestMayHave(t *testing.T) {
	for kind := range 256 {
		mayIs(t, least(kind), true, "the least")
		told := has(kind)
		all := least(kind)
		for _, f := range fields() {
			c := least(kind)
			f.set(&c)
			mayIs(t, c, told[f.name] == 1, f.name)
			if told[f.name] == 1 {
				f.set(&all)
			}
		}
		mayIs(t, all, true, "all that is told")
		for _, f := range fields() {
			if c := all; told[f.name] == 0 {
				f.set(&c)
				mayIs(t, c, false, "all that is told, and "+f.name)
			}
		}
		c := least(kind)
		c.Data = nil
		mayIs(t, c, kind != 0 && kind != 2, "no bytes")
		c.Data = []byte{}
		c.Addrs, c.Gaps, c.Dups, c.Causes = []uint32{}, []api.Gap{}, []uint32{}, []api.Cause{}
		mayIs(t, c, kind != 0 && kind != 2, "lists of nothing")
	}
}

// P5.1: each kind with all flags.
func TestMayFlags(t *testing.T) {
	for kind := range 256 {
		for flags := range 256 {
			want := flags == 0
			switch {
			case kind == 0:
				want = flags < 8
			case kind == 6, kind == 14:
				want = flags < 2
			case !named(kind):
				want = true
			}
			c := least(kind)
			c.Flags = uint8(flags)
			mayIs(t, c, want, "flags")
		}
	}
}

// P5.1: how many addresses, gaps and dups there may be.
func TestMayCounts(t *testing.T) {
	for n := range 9 {
		mayIs(t, api.Chunk{Kind: api.CkInit, Addrs: make([]uint32, n)}, n <= 3, "addresses")
		mayIs(t, api.Chunk{Kind: api.CkInitAck, Addrs: make([]uint32, n), Data: []byte{1}}, n <= 3, "addresses")
	}
	var gaps []api.Gap
	for n := range 130 {
		mayIs(t, api.Chunk{Kind: api.CkSack, Gaps: gaps}, n <= 64, "gaps")
		mayIs(t, api.Chunk{Kind: api.CkSack, Gaps: gaps, Dups: make([]uint32, n)}, n <= 16, "gaps and dups")
		mayIs(t, api.Chunk{Kind: api.CkSack, Dups: make([]uint32, n)}, n <= 16, "dups")
		gaps = append(gaps, api.Gap{Start: uint16(3*n + 2), End: uint16(3*n + 3)})
	}
}

// gapsMay is as the chapter's words say it, in numbers that do not go round.
func gapsMay(l []api.Gap) bool {
	for i, g := range l {
		ahead := 0
		if i > 0 {
			ahead = int(l[i-1].End)
		}
		if int(g.Start) > int(g.End) || int(g.Start)-ahead < 2 {
			return false
		}
	}
	return true
}

// P5.1: all rows of up to three gaps, of numbers about the edges.
func TestMayGaps(t *testing.T) {
	var all []api.Gap
	edges := []uint16{0, 1, 2, 3, 4, 5, 32767, 32769, 65532, 65533, 65534, 65535}
	for _, a := range edges {
		for _, b := range edges {
			all = append(all, api.Gap{Start: a, End: b})
		}
	}
	tell := func(l ...api.Gap) {
		if want := gapsMay(l); May(api.Chunk{Kind: api.CkSack, Gaps: l}) != want {
			t.Errorf("gaps %v: not %v", l, want)
		}
	}
	for _, a := range all {
		tell(a)
		for _, b := range all {
			tell(a, b)
			for _, c := range all {
				if gapsMay([]api.Gap{a, b}) || c.Start == 4 {
					tell(a, b, c)
				}
			}
		}
	}
	for _, l := range [][]api.Gap{{{Start: 1, End: 1}}, {{Start: 0, End: 2}}, {{Start: 3, End: 2}}, {{Start: 2, End: 65534}, {Start: 0, End: 0}}, {{Start: 2, End: 65535}, {Start: 1, End: 1}}, {{Start: 2, End: 3}, {Start: 4, End: 4}}} {
		mayIs(t, api.Chunk{Kind: api.CkSack, Gaps: l}, false, "gaps")
	}
	for _, l := range [][]api.Gap{{{Start: 2, End: 2}}, {{Start: 65535, End: 65535}}, {{Start: 2, End: 65533}, {Start: 65535, End: 65535}}, {{Start: 2, End: 3}, {Start: 5, End: 5}, {Start: 7, End: 9}}} {
		mayIs(t, api.Chunk{Kind: api.CkSack, Gaps: l}, true, "gaps")
	}
}
