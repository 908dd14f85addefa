package fixed_test

import (
	"fmt"
	"math/big"
	"regexp"
	"strings"
	"testing"

	"gauntlet/api"
	"gauntlet/fixed"
)

// both holds the text of a number, and the way back, against what is wanted.
func both(t *testing.T, a int32, want string) {
	t.Helper()
	if got := fixed.Text(a); got != want {
		t.Fatalf("Text(%d): got %q, want %q", a, got, want)
	}
	if got, e := fixed.Parse(want); got != a || e != api.OK {
		t.Fatalf("Parse(%q): got %d, %v, want %d", want, got, e, a)
	}
}

func refused(t *testing.T, s string) {
	t.Helper()
	if a, e := fixed.Parse(s); a != 0 || e != api.ErrForm {
		t.Fatalf("Parse(%q): got %d, %v, want 0 and ErrForm", s, a, e)
	}
}

// told is the text of a number by the library's own way.
func told(a int32) string {
	sign, n := "", int64(a)
	if n < 0 {
		sign, n = "-", -n
	}
	return fmt.Sprintf("%s%d.%04x", sign, n>>16, n&0xffff)
}

// P8.2

func TestTextByHand(t *testing.T) {
	for a, want := range map[int32]string{
		0:                 "0.0000",
		1:                 "0.0001",
		-1:                "-0.0001",
		16:                "0.0010",
		0xabc:             "0.0abc",
		-0xdef:            "-0.0def",
		one - 1:           "0.ffff",
		1 - one:           "-0.ffff",
		one:               "1.0000",
		-one:              "-1.0000",
		one + 1:           "1.0001",
		-one - 1:          "-1.0001",
		98304:             "1.8000",
		-98304:            "-1.8000",
		10 * one:          "10.0000",
		-100*one - 0x9876: "-100.9876",
		12345*one + 0x12:  "12345.0012",
		greatest - 1:      "32767.fffe",
		greatest:          "32767.ffff",
		1 - 32768*one:     "-32767.ffff",
		least:             "-32768.0000",
	} {
		both(t, a, want)
	}
}

func TestParseOfNoText(t *testing.T) {
	for _, s := range []string{
		"", " ", "-", "+", ".", "-.", "a", "\x00", "\xff", "-\xff",
		"0", "1", "-1", "1.", "-1.", ".0000", "-.0000", ".8000", "-.8000", "0000", "00000",
		"+1.0000", "+0.0000", "-+1.0000", "+-1.0000", "--1.0000", "--0.0000", "---1.0000", "1-.0000", "1.0000-",
		"-0.0000", "-00.0000",
		"00.0000", "01.0000", "-01.0000", "00.0001", "-00.0001", "0000000000000000000001.0000", "010.0000",
		"1.0", "1.00", "1.000", "-1.800", "1.00000", "1.80000", "-1.00001", "1.000000000000000000000001",
		"1.000A", "1.FFFF", "-0.Ffff", "1.aBcd", "1.000g", "1.000G", "a.0000", "1a.0000", "0x1.0000", "1.0x01",
		" 1.0000", "1.0000 ", "1 .0000", "1. 0000", "1.00 00", "- 1.0000", "1.0000\n", "\t1.0000", "1.0000\x00",
		"1.-001", "1.+001", "1.--01", "1.0-01", "1_0.0000", "1.0_00", "1.00_0", "1,0000", "1:0000", "1/.0000", "1.000/", "1.000:", "1.000`",
		"1.0.00", "1..0000", "1.0000.", ".1.0000", "1.0000.0000", "1e1.0000", "1.1e+1",
		"١.0000", "1.000٠", "１.0000", "1．0000", "−1.0000",
		"32768.0000", "32768.0001", "-32768.0001", "-32768.ffff", "32769.0000", "-32769.0000",
		"65535.0000", "65535.ffff", "-65535.ffff", "65536.0000", "65536.0001", "-65536.0001", "65537.0000", "-65537.0000", "99999.0000",
		"131072.0001", "4294967295.ffff", "4294967296.0001", "-4294967296.0001", "4294967297.0000",
		"281474976710656.0001", "281474976710657.0000", "9223372036854775807.ffff", "9223372036854775808.0001",
		"18446744073709551615.ffff", "18446744073709551616.0001", "-18446744073709551616.0001", "18446744073709551617.8000",
		"340282366920938463463374607431768211457.0000", "NaN", "Inf", "nil",
	} {
		refused(t, s)
	}
}

func TestParseOfLongTexts(t *testing.T) {
	for _, part := range []string{"0", "1", "9", "-", ".", "a", "1.0000", "\x00", "\xff"} {
		long := strings.Repeat(part, 1<<20)
		for _, s := range []string{long, "1.0000" + long, long + "1.0000", "-" + long + ".0000", long + ".0000", "1." + long, "1." + long + "0000"} {
			refused(t, s)
		}
	}
}

var textForm = regexp.MustCompile(`^(-?)(0|[1-9][0-9]*)\.([0-9a-f]{4})\z`)

// number is the number that a text stands for, by P8.2's words alone; nil: it is no Text.
func number(s string) *big.Int {
	m := textForm.FindStringSubmatch(s)
	if m == nil || s == "-0.0000" {
		return nil
	}
	whole, _ := new(big.Int).SetString(m[2], 10)
	part, _ := new(big.Int).SetString(m[3], 16)
	n := whole.Lsh(whole, 16)
	n.Add(n, part)
	if m[1] == "-" {
		n.Neg(n)
	}
	if n.Cmp(big.NewInt(least)) < 0 || n.Cmp(big.NewInt(greatest)) > 0 {
		return nil
	}
	return n
}

// parsed tells whether the text was one.
func parsed(t *testing.T, s string) bool {
	t.Helper()
	n := number(s)
	if n == nil {
		refused(t, s)
		return false
	}
	both(t, int32(n.Int64()), s)
	return true
}

// Each text here is that of a number, with one byte gone, or turned, or put in.
func TestParseOfNeighbours(t *testing.T) {
	texts := 0
	try := func(parts ...string) {
		t.Helper()
		if parsed(t, strings.Join(parts, "")) {
			texts++
		}
	}
	for _, a := range []int32{0, 1, -1, one, -one, 98304, -98304, 10 * one, 0xabcd, greatest, least, least + 1, 32760 * one, -12345*one - 0x6789} {
		s := fixed.Text(a)
		for i := range len(s) + 1 {
			for c := range 256 {
				put := string([]byte{byte(c)})
				try(s[:i], put, s[i:])
				if i < len(s) {
					try(s[:i], put, s[i+1:])
				}
			}
			if i < len(s) {
				try(s[:i], s[i+1:])
				try(s[:i])
				try(s[i:])
			}
		}
	}
	if texts < 1000 {
		t.Fatal("too few of them were texts:", texts)
	}
}

func TestParseOfDrawnTexts(t *testing.T) {
	d := drawn(11)
	texts := 0
	signs := []string{"", "", "", "-", "-", "-", "+", "--", " "}
	for range 200000 {
		s := signs[d.below(len(signs))]
		for range d.below(7) {
			s += string("0123456789"[d.below(10)])
		}
		if d.below(20) > 0 {
			s += "."
		}
		for range 3 + d.below(3) {
			s += string("0123456789abcdefF"[d.below(17)])
		}
		if parsed(t, s) {
			texts++
		}
	}
	if texts < 10000 {
		t.Fatal("too few of them were texts:", texts)
	}
}

// P8.3

func TestParseOfText(t *testing.T) {
	for _, a := range edges() {
		both(t, a, told(a))
	}
	d := drawn(12)
	for range 200000 {
		a := d.next()
		both(t, a, told(a))
	}
}

// All that can stand behind the point, at both signs, and all whole parts.
func TestParseOfTextPartByPart(t *testing.T) {
	for n := range int32(one) {
		for _, a := range []int32{n, -n, 7*one + n, -7*one - n, greatest - n, least + n, (n - 32768) * one, (n-32768)*one + 0x80a0} {
			both(t, a, told(a))
		}
	}
}
