package chunk

import "lanyard/api"

// flags are those that chunks of the kind may have.
func flags(kind uint8) uint8 {
	switch {
	case kind == api.CkData:
		return api.FlEnd | api.FlBegin | api.FlUnordered
	case kind == api.CkAbort, kind == api.CkDone:
		return api.FlNoTag
	case Known(kind):
		return 0
	}
	return 255
}

// needsData: whether chunks of the kind have a byte of Data at least.
func needsData(kind uint8) bool {
	return kind == api.CkData || kind == api.CkInitAck
}

// untold is the chunk without what is told of its kind.
func untold(c api.Chunk) api.Chunk {
	switch c.Kind {
	case api.CkData:
		c.Tsn, c.Sid, c.Ssn, c.Ppid, c.Data = 0, 0, 0, 0, nil
	case api.CkInit:
		c.Tag, c.Rwnd, c.Out, c.In, c.Tsn, c.Addrs = 0, 0, 0, 0, 0, nil
	case api.CkInitAck:
		c.Tag, c.Rwnd, c.Out, c.In, c.Tsn, c.Addrs, c.Data = 0, 0, 0, 0, 0, nil, nil
	case api.CkSack:
		c.Tsn, c.Rwnd, c.Gaps, c.Dups = 0, 0, nil, nil
	case api.CkAbort, api.CkError:
		c.Causes = nil
	case api.CkShut:
		c.Tsn = 0
	case api.CkShutAck, api.CkCookieAck, api.CkDone:
	default:
		c.Data = nil
	}
	return c
}

// nothing: whether the chunk has nothing beside its kind and flags.
func nothing(c api.Chunk) bool {
	lists := len(c.Data) + len(c.Addrs) + len(c.Gaps) + len(c.Dups) + len(c.Causes)
	return c.Tag|c.Rwnd|c.Tsn|c.Ppid == 0 && c.Out|c.In|c.Sid|c.Ssn == 0 && lists == 0
}

// apart: whether each gap is one, and a TSN at least that did not come lies ahead of it.
func apart(gaps []api.Gap) bool {
	end := 0
	for _, g := range gaps {
		if g.Start > g.End || int(g.Start) < end+2 {
			return false
		}
		end = int(g.End)
	}
	return true
}
