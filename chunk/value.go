package chunk

import (
	"bytes"

	"lanyard/api"
	"lanyard/tlv"
)

// value is that of the thing of a chunk that may be.
func value(c api.Chunk) ([]byte, api.Errno) {
	b := numbers(c)
	if c.Kind != api.CkInitAck { // that one's is in a parameter
		b = append(b, c.Data...)
	}
	for _, x := range parameters(c) {
		p, e := tlv.Put(false, x)
		if e != api.OK {
			return nil, e
		}
		b = append(b, p...)
		if len(b) > maxValue { // however many are still to come
			return nil, api.ErrLong
		}
	}
	return b, api.OK
}

// numbers are what the value begins with.
func numbers(c api.Chunk) []byte {
	var b []byte
	switch c.Kind {
	case api.CkData:
		b = four(b, c.Tsn)
		b = two(b, c.Sid)
		b = two(b, c.Ssn)
		b = four(b, c.Ppid)
	case api.CkInit, api.CkInitAck:
		b = four(b, c.Tag)
		b = four(b, c.Rwnd)
		b = two(b, c.Out)
		b = two(b, c.In)
		b = four(b, c.Tsn)
	case api.CkSack:
		b = four(b, c.Tsn)
		b = four(b, c.Rwnd)
		b = two(b, uint16(len(c.Gaps)))
		b = two(b, uint16(len(c.Dups)))
		for _, g := range c.Gaps {
			b = two(b, g.Start)
			b = two(b, g.End)
		}
		for _, d := range c.Dups {
			b = four(b, d)
		}
	case api.CkShut:
		b = four(b, c.Tsn)
	}
	return b
}

// parameters are what the value ends with.
func parameters(c api.Chunk) []api.Tlv {
	var l []api.Tlv
	for _, a := range c.Addrs {
		l = append(l, api.Tlv{Kind: addrKind, Value: four(nil, a)})
	}
	if c.Kind == api.CkInitAck {
		l = append(l, api.Tlv{Kind: cookieKind, Value: c.Data})
	}
	for _, x := range c.Causes {
		l = append(l, api.Tlv{Kind: x.Code, Value: x.Data})
	}
	return l
}

// two and four lay a number of the wire behind b.
func two(b []byte, x uint16) []byte {
	return append(b, byte(x>>8), byte(x))
}

func four(b []byte, x uint32) []byte {
	return two(two(b, uint16(x>>16)), uint16(x))
}

// reader goes over a value, and keeps what it read as a chunk.
type reader struct {
	rest []byte
	c    api.Chunk
	bad  bool // there were too few bytes, or what may not be there
}

// reading tells what is read of a value of the chunk's kind.
func (r *reader) reading() func() {
	switch r.c.Kind {
	case api.CkData:
		return r.piece
	case api.CkInit, api.CkInitAck:
		return r.side
	case api.CkSack:
		return r.came
	case api.CkAbort, api.CkError:
		return r.causes
	case api.CkShut:
		return r.last
	case api.CkShutAck, api.CkCookieAck, api.CkDone:
		return r.nothing
	}
	return r.data
}

func (r *reader) nothing() {}

func (r *reader) data() {
	r.c.Data, r.rest = own(r.rest), nil
}

func (r *reader) last() {
	r.c.Tsn = r.four()
}

func (r *reader) piece() {
	r.c.Tsn = r.four()
	r.c.Sid = r.two()
	r.c.Ssn = r.two()
	r.c.Ppid = r.four()
	r.data()
}

func (r *reader) came() {
	r.c.Tsn = r.four()
	r.c.Rwnd = r.four()
	gaps, dups := int(r.two()), int(r.two())
	if len(r.rest) != 4*(gaps+dups) { // ahead of reading: so many may be told that are not there
		r.bad = true
		return
	}
	for range gaps {
		r.c.Gaps = append(r.c.Gaps, api.Gap{Start: r.two(), End: r.two()})
	}
	for range dups {
		r.c.Dups = append(r.c.Dups, r.four())
	}
}

func (r *reader) side() {
	r.c.Tag = r.four()
	r.c.Rwnd = r.four()
	r.c.Out = r.two()
	r.c.In = r.two()
	r.c.Tsn = r.four()
	r.parameters(func(x api.Tlv) bool {
		switch x.Kind {
		case addrKind:
			r.address(x.Value)
		case cookieKind:
			r.cookie(x.Value)
		default:
			return x.Kind >= skipsFrom
		}
		return true
	})
}

func (r *reader) address(b []byte) {
	a := reader{rest: b}
	r.c.Addrs = append(r.c.Addrs, a.four())
	r.bad = r.bad || a.bad || len(a.rest) > 0
}

// cookie leaves one in a CkInit to May.
func (r *reader) cookie(b []byte) {
	r.bad = r.bad || len(b) == 0 || len(r.c.Data) > 0
	r.c.Data = own(b)
}

func (r *reader) causes() {
	r.parameters(func(x api.Tlv) bool {
		r.c.Causes = append(r.c.Causes, api.Cause{Code: x.Kind, Data: own(x.Value)})
		return true
	})
}

// parameters hands what is left to read, one by one, as long as it says to go on.
func (r *reader) parameters(read func(api.Tlv) bool) {
	for x, e := range tlv.All(false, r.rest) {
		if e != api.OK {
			r.bad = true
		}
		if e != api.OK || !read(x) {
			break
		}
	}
	r.rest = nil
}

// two and four take a number of the wire away from the front.
func (r *reader) two() uint16 {
	if len(r.rest) < 2 {
		r.rest, r.bad = nil, true
		return 0
	}
	x := uint16(r.rest[0])<<8 | uint16(r.rest[1])
	r.rest = r.rest[2:]
	return x
}

func (r *reader) four() uint32 {
	high, low := r.two(), r.two()
	return uint32(high)<<16 | uint32(low)
}

// own is the bytes in memory of their own: a nil list, if there are none, as a field has that is not told.
func own(b []byte) []byte {
	if len(b) == 0 {
		return nil
	}
	return bytes.Clone(b)
}
