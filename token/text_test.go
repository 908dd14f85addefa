package token_test

import (
	"encoding/hex"
	"regexp"
	"strings"
	"testing"
	"unicode"

	"gauntlet/api"
	"gauntlet/token"
)

// mixed has all digits in each half of a byte.
const mixed = "01234567-89abcdef-fedcba98-76543210"

// manyTokens are tokens with each byte at each place, and drawn ones.
func manyTokens() []token.Token {
	l := []token.Token{{}}
	for i := range 16 {
		for b := range 256 {
			var x, full token.Token
			for j := range full {
				full[j] = 0xff
			}
			x[i], full[i] = byte(b), byte(b)
			l = append(l, x, full)
		}
	}
	d := drawn(172)
	for range 3000 {
		l = append(l, d.token())
	}
	return l
}

// shape is what a Text is, as P17.1 tells it.
var shape = regexp.MustCompile(`\A[0-9a-f]{8}-[0-9a-f]{8}-[0-9a-f]{8}-[0-9a-f]{8}\z`)

// P17.1: Text

func TestTextByHand(t *testing.T) {
	for _, x := range []struct {
		t    token.Token
		want string
	}{
		{token.Token{}, "00000000-00000000-00000000-00000000"},
		{token.Token{0xff, 0xff, 0xff, 0xff, 0xff, 0xff, 0xff, 0xff, 0xff, 0xff, 0xff, 0xff, 0xff, 0xff, 0xff, 0xff}, "ffffffff-ffffffff-ffffffff-ffffffff"},
		{token.Token{0x01, 0x23, 0x45, 0x67, 0x89, 0xab, 0xcd, 0xef, 0xfe, 0xdc, 0xba, 0x98, 0x76, 0x54, 0x32, 0x10}, mixed},
		{token.Token{0, 1, 2, 3, 4, 5, 6, 7, 8, 9, 10, 11, 12, 13, 14, 15}, "00010203-04050607-08090a0b-0c0d0e0f"},
		{token.Token{0x90, 0xa0, 0x0a, 0x09, 0x99, 0x9a, 0xa9, 0xaa, 0x1f, 0xf1, 0xc3, 0x3c, 0x7e, 0xe7, 0xd5, 0x5d}, "90a00a09-999aa9aa-1ff1c33c-7ee7d55d"},
		{token.Token{0: 0x1e}, "1e000000-00000000-00000000-00000000"},
		{token.Token{3: 0x1e}, "0000001e-00000000-00000000-00000000"},
		{token.Token{4: 0x1e}, "00000000-1e000000-00000000-00000000"},
		{token.Token{11: 0x1e}, "00000000-00000000-0000001e-00000000"},
		{token.Token{12: 0x1e}, "00000000-00000000-00000000-1e000000"},
		{token.Token{15: 0x1e}, "00000000-00000000-00000000-0000001e"},
	} {
		if got := token.Text(x.t); got != x.want {
			t.Errorf("% x: got %q, want %q", x.t, got, x.want)
		}
		if back, e := token.Parse(x.want); back != x.t || e != api.OK {
			t.Errorf("Parse of %q: got % x, %d", x.want, back, e)
		}
	}
}

func TestTextOfMany(t *testing.T) {
	for _, x := range manyTokens() {
		if got, want := token.Text(x), textOf(x); got != want {
			t.Fatalf("% x: got %q, want %q", x, got, want)
		}
	}
}

func TestWhereTheBarsStand(t *testing.T) {
	for _, x := range manyTokens() {
		text := token.Text(x)
		if len(text) != 35 {
			t.Fatalf("%q has %d characters", text, len(text))
		}
		for i, c := range []byte(text) {
			bar := i == 8 || i == 17 || i == 26
			if bar != (c == '-') || !bar && !strings.Contains("0123456789abcdef", string(c)) {
				t.Fatalf("%q: %q at the place %d", text, c, i)
			}
		}
	}
}

// P17.1: Parse

func refuse(t *testing.T, s string) {
	t.Helper()
	if x, e := token.Parse(s); x != (token.Token{}) || e != api.ErrForm {
		t.Errorf("Parse(%.80q): got % x, %d, want ErrForm", s, x, e)
	}
}

// parse holds Parse against the shape of a Text, and against the library.
func parse(t *testing.T, s string) {
	t.Helper()
	if !shape.MatchString(s) {
		refuse(t, s)
		return
	}
	want, err := hex.DecodeString(strings.ReplaceAll(s, "-", ""))
	if err != nil {
		t.Fatal(err)
	}
	if x, e := token.Parse(s); e != api.OK || x != token.Token(want) {
		t.Errorf("Parse(%q): got % x, %d, want % x", s, x, e, want)
	}
}

// put is a text with another one laid over it from a place on.
func put(text string, at int, over string) string {
	return text[:at] + over + text[at+len(over):]
}

func TestParseByHand(t *testing.T) {
	const zero = "00000000-00000000-00000000-00000000"
	for _, s := range []string{
		"", "0", "-", "---", " ", "\x00", "00000000", "01234567-89abcdef", "01234567-89abcdef-fedcba98",
		mixed[1:], mixed[:34], "0" + mixed, mixed + "0", "-" + mixed, mixed + "-", " " + mixed, mixed + " ", mixed + "\n", "\n" + mixed, mixed + "\x00",
		mixed + mixed, mixed + "-" + mixed, mixed + "-00000000", "00000000-" + mixed,
		strings.ToUpper(mixed), put(mixed, 11, "B"), put(mixed, 34, "A"), put(zero, 0, "F"),
		put(mixed, 0, "g"), put(mixed, 7, "g"), put(mixed, 9, "g"), put(mixed, 34, "g"), put(mixed, 20, "z"),
		put(mixed, 0, " "), put(mixed, 7, " "), put(mixed, 34, " "), put(mixed, 1, "\t"),
		put(mixed, 0, "+"), put(mixed, 0, "-"), put(mixed, 9, "+"), put(mixed, 1, "-"), put(mixed, 33, "-"), put(mixed, 34, "-"), put(zero, 9, "-"),
		put(mixed, 8, "0"), put(mixed, 17, "0"), put(mixed, 26, "0"), put(mixed, 8, "f"), put(mixed, 26, "a"),
		put(mixed, 8, "_"), put(mixed, 17, " "), put(mixed, 26, "+"), put(mixed, 8, ":"), put(mixed, 8, "\x00"),
		put(mixed, 0, "0x"), put(mixed, 9, "0X"), put(mixed, 3, "_"), put(mixed, 3, "."), put(mixed, 3, "/"), put(mixed, 3, ":"), put(mixed, 3, "`"), put(mixed, 3, "@"),
		"0123456-789abcdef-fedcba98-76543210", "012345678-9abcdef-fedcba98-76543210", "01234567-89abcde-ffedcba98-76543210", "01234567-89abcdef-fedcba987-6543210",
		"01234567--9abcdef-fedcba98-76543210", "01234567--89abcdef-fedcba98-76543210", "01234567-89abcdef-fedcba98-7654321-",
		"0123456789abcdeffedcba9876543210", "0123456789abcdeffedcba9876543210000", "0123456789abcdeffedcba9876543210---", "---0123456789abcdeffedcba9876543210",
		"01234567-89abcdeffedcba98-76543210", "01234567-89abcdef-fedcba9876543210", "0123456789abcdef-fedcba98-76543210",
		"01234567-89ab-cdef-fedc-ba9876543210", "0123456-789abcd-effedcb-a987654-3210",
		strings.Repeat("-", 35), strings.Repeat("0", 35), strings.Repeat("0", 32), strings.Repeat("-", 32), strings.Repeat(" ", 35), strings.Repeat("\x00", 35), strings.Repeat("\xff", 35),
	} {
		refuse(t, s)
	}
}

func TestParseBeyondASCII(t *testing.T) {
	for _, s := range []string{
		put(mixed, 0, "é"), put(mixed, 33, "é"), put(mixed, 7, "é"), put(mixed, 8, "é"),
		put(mixed, 0, "０"), put(mixed, 3, "ａ"), put(mixed, 32, "０"), // as wide as three digits
		put(mixed, 7, "–"), put(mixed, 8, "‐"), put(mixed, 6, "‐"), // bars that are none
		put(mixed, 0, "\x80"), put(mixed, 34, "\xff"), put(mixed, 8, "\xad"), put(mixed, 8, "\xc2\xad"), put(mixed, 17, "\x2d\x80"),
		put(mixed, 0, "\xb0"), put(mixed, 11, "\xe1"), // a digit and a letter with the highest binary digit beside
		put(mixed, 0, "\xc3"), put(mixed, 34, "\xf0"),
		strings.Replace(mixed, "0", "é", 1), strings.Replace(mixed, "-", "–", 1), strings.Replace(mixed, "-", "–", -1), strings.Replace(mixed, "0", "٠", 1),
		strings.Replace(mixed, "a", "а", -1), // a letter of another script
		"\ufeff" + mixed, mixed + "\u200b", mixed[:34] + "\u0660",
	} {
		refuse(t, s)
	}
	wide := strings.Map(func(r rune) rune { return r - '0' + '０' }, mixed)
	refuse(t, wide)
	refuse(t, wide[:33]+"00")
	for r := rune(0x80); r < 0x3000; r++ {
		if unicode.IsDigit(r) || unicode.Is(unicode.Pd, r) {
			refuse(t, strings.Replace(mixed, "0", string(r), 1))
			refuse(t, put(mixed, 0, string(r)))
			refuse(t, put(mixed, 8, string(r)))
		}
	}
}

func TestParseWithEachByteAtEachPlace(t *testing.T) {
	for _, text := range []string{mixed, token.Text(token.Token{}), "ffffffff-ffffffff-ffffffff-ffffffff", "90a00a09-999aa9aa-1ff1c33c-7ee7d55d"} {
		for at := range len(text) {
			for b := range 256 {
				parse(t, put(text, at, string([]byte{byte(b)})))
			}
		}
	}
}

func TestParseWithAByteMoreOrLess(t *testing.T) {
	for _, text := range []string{mixed, token.Text(token.Token{})} {
		for at := range len(text) + 1 {
			for b := range 256 {
				refuse(t, text[:at]+string([]byte{byte(b)})+text[at:])
			}
			refuse(t, text[:at]+"0-"+text[at:])
			refuse(t, text[:at]+"00"+text[at:])
			if at < len(text) {
				refuse(t, text[:at])
				refuse(t, text[at+1:])
				refuse(t, text[:at]+text[at+1:])
			}
		}
	}
}

// Two places that are changed leave a Text as long as it is, and with as many bars.
func TestParseWithTwoPlacesChanged(t *testing.T) {
	for i := range len(mixed) {
		for j := range i {
			b := []byte(mixed)
			b[i], b[j] = b[j], b[i]
			parse(t, string(b))
			if (mixed[i] == '-') != (mixed[j] == '-') {
				refuse(t, string(b))
			}
		}
	}
}

func TestParseOfBarsAnywhere(t *testing.T) {
	const digits = "0123456789abcdeffedcba9876543210"
	for i := range len(digits) + 1 {
		for j := range i + 1 {
			for k := range j + 1 {
				s := digits[:k] + "-" + digits[k:j] + "-" + digits[j:i] + "-" + digits[i:]
				parse(t, s)
				if (k != 8 || j != 16 || i != 24) != (s != mixed) {
					t.Fatal(k, j, i, s)
				}
			}
		}
	}
}

func TestParseOfDrawnTexts(t *testing.T) {
	d := drawn(173)
	const near = "0123456789abcdef--gGA F+\xc3"
	right := 0
	for range 20000 {
		b := []byte(token.Text(d.token()))
		for range d.below(3) {
			b[d.below(len(b))] = near[d.below(len(near))]
		}
		if shape.Match(b) {
			right++
		}
		parse(t, string(b))
	}
	if right < 2000 || right > 18000 {
		t.Errorf("%d of 20000 are Texts", right)
	}
	for range 20000 {
		parse(t, string(d.bytes(d.below(80))))
	}
}

func TestParseOfLongTexts(t *testing.T) {
	for _, part := range []string{"0", "-", "\x00", "\xff", mixed, mixed + "-", "é"} {
		refuse(t, strings.Repeat(part, 1<<20))
		refuse(t, mixed+strings.Repeat(part, 1<<20))
		refuse(t, strings.Repeat(part, 1<<20)+mixed)
	}
	for n := range 300 {
		if n != 35 {
			refuse(t, strings.Repeat(mixed+"-", 9)[:n])
		}
	}
}
