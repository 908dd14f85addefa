package fixed

import (
	"strconv"
	"strings"

	"gauntlet/api"
)

// Text is a number as text.
func Text(a int32) string {
	sign, n := "", int64(a) // an int32 has no room for the least one without its sign
	if n < 0 {
		sign, n = "-", -n
	}
	// The 1 ahead of the four digits keeps the noughts among them.
	behind := strconv.FormatInt(one+n%one, 16)[1:]
	return sign + strconv.FormatInt(n/one, 10) + "." + behind
}

// Parse is the way back.
func Parse(s string) (int32, api.Errno) {
	n, ok := read(s)
	a := hold(n)
	// What is read, but written otherwise or beyond the digits, has another Text.
	if !ok || Text(a) != s {
		return 0, api.ErrForm
	}
	return a, api.OK
}

// read reads each Text, and some texts beside them; false: s is neither.
func read(s string) (int64, bool) {
	unsigned, below := strings.CutPrefix(s, "-")
	before, behind, _ := strings.Cut(unsigned, ".")
	whole, wrong := strconv.ParseUint(before, 10, 32)
	part, bad := strconv.ParseUint(behind, 16, digits)
	if wrong != nil || bad != nil {
		return 0, false
	}
	n := int64(whole*one + part)
	if below {
		return -n, true
	}
	return n, true
}
