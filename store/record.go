package store

import "gablet/api"

// pairSize: how many bytes a pair counts beside its own.
const pairSize = 4

// goneMark stands where else a value's length does, which is never so great.
const goneMark = api.MaxValue + 1

// mayCommit: may these be a commit? How many there are is not asked.
func mayCommit(l []api.Write) bool {
	seen := map[string]bool{}
	for _, w := range l {
		if !mayWrite(w) || seen[string(w.Key)] {
			return false
		}
		seen[string(w.Key)] = true
	}
	return true
}

func mayWrite(w api.Write) bool {
	if len(w.Key) < 1 || len(w.Key) > api.MaxKey {
		return false
	}
	return len(w.Value) <= api.MaxValue && (!w.Gone || len(w.Value) == 0)
}

// record: a commit's bytes: of each write the key, behind its length, and the value, behind its own; neither length takes more than a byte.
func record(l []api.Write) (b []byte) {
	for _, w := range l {
		b = append(b, byte(len(w.Key)))
		b = append(b, w.Key...)
		if w.Gone {
			b = append(b, goneMark)
			continue
		}
		b = append(b, byte(len(w.Value)))
		b = append(b, w.Value...)
	}
	return b
}

// recorded: the commit whose bytes these are, or false, if they are none's.
func recorded(b []byte) (l []api.Write, is bool) {
	for len(b) > 0 {
		var w api.Write
		if w.Key, b, is = piece(b); !is {
			return nil, false
		}
		if len(b) > 0 && b[0] == goneMark {
			w.Gone, b = true, b[1:]
		} else if w.Value, b, is = piece(b); !is {
			return nil, false
		}
		l = append(l, w)
	}
	return l, mayCommit(l)
}

// piece: the bytes behind their length, and what is behind them; false, if they don't stand whole.
func piece(b []byte) (own, rest []byte, is bool) {
	if len(b) == 0 || len(b)-1 < int(b[0]) {
		return nil, nil, false
	}
	end := 1 + int(b[0])
	return b[1:end], b[end:], true
}
