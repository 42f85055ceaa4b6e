package ratio

import (
	"diapason/api"
	"diapason/nat"
)

// maxInt64 is the greatest int64; the size of the least one is 1 more.
const maxInt64 = 1<<63 - 1

// Int64 is the number, and true, if x may be and is a whole number of that range.
func Int64(x api.Frac) (int64, bool) {
	l, ok := read(x)
	if !ok || !l[0].IsWhole() {
		return 0, false
	}
	n, ok := l[0].Num().Word()
	switch {
	case !ok:
		return 0, false
	case n <= maxInt64 && l[0].Sign() < 0:
		return -int64(n), true
	case n <= maxInt64:
		return int64(n), true
	case n == maxInt64+1 && l[0].Sign() < 0:
		return -maxInt64 - 1, true
	}
	return 0, false
}

// size is n without its sign.
func size(n int64) nat.Nat {
	if n < 0 {
		// The least one too: its turned sign wraps round to what is meant.
		return nat.Of(-uint64(n))
	}
	return nat.Of(uint64(n))
}
