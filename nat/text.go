package nat

import "strconv"

// Digits are read and told in groups of groupDigits, the most that one word takes.
const (
	groupDigits = 19
	groupSize   = 10_000_000_000_000_000_000
)

// Text is the number in decimal digits, without noughts ahead.
func (x Nat) Text() string {
	if len(x) == 0 {
		return "0"
	}
	var groups []uint64
	for rest := x.clone(); len(rest) > 0; rest = rest.trim() {
		groups = append(groups, rest.quoWord(groupSize))
	}
	last := len(groups) - 1
	s := strconv.AppendUint(nil, groups[last], 10)
	for i := last - 1; i >= 0; i-- {
		s = appendGroup(s, groups[i])
	}
	return string(s)
}

// appendGroup tells all digits of a group, noughts ahead too.
func appendGroup(s []byte, group uint64) []byte {
	digits := strconv.FormatUint(group, 10)
	for range groupDigits - len(digits) {
		s = append(s, '0')
	}
	return append(s, digits...)
}

// Parse reads what Text tells, and that form alone.
func Parse(s string) (Nat, bool) {
	if !isText(s) {
		return nil, false
	}
	x := make(Nat, 0, len(s)/groupDigits+1)
	for len(s) > 0 {
		// All groups but the first one are whole.
		n := (len(s)-1)%groupDigits + 1
		x = x.mulAddWord(power10(n), groupValue(s[:n]))
		s = s[n:]
	}
	return x, true
}

// isText tells whether these are digits, without noughts ahead.
func isText(s string) bool {
	if s == "" || s[0] == '0' && s != "0" {
		return false
	}
	for i := range len(s) {
		if s[i] < '0' || s[i] > '9' {
			return false
		}
	}
	return true
}

// groupValue is the number of some digits, groupDigits at most.
func groupValue(s string) uint64 {
	var n uint64
	for i := range len(s) {
		n = n*10 + uint64(s[i]-'0')
	}
	return n
}

// power10 is 10^n, n at most groupDigits.
func power10(n int) uint64 {
	power := uint64(1)
	for range n {
		power *= 10
	}
	return power
}

// mulAddWord is x w + more, in x's memory if that has room.
func (x Nat) mulAddWord(w, more uint64) Nat {
	for i := range x {
		x[i], more = timesPlus(x[i], w, more)
	}
	if more != 0 {
		x = append(x, more)
	}
	return x
}
