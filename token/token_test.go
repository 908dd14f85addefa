package token_test

import (
	"crypto/hmac"
	"crypto/sha256"
	"encoding/binary"
	"encoding/hex"
	"math"
	"strings"
	"testing"

	"gauntlet/api"
	"gauntlet/token"
)

const (
	greatest = math.MaxInt
	least    = math.MinInt
)

// drawn is a row of numbers that look drawn by chance, the same each time.
type drawn uint64

func (d *drawn) below(n int) int {
	*d = *d*6364136223846793005 + 1442695040888963407
	return int(uint64(*d)>>33) % n
}

// num has as many great numbers as small ones, of both signs.
func (d *drawn) num() int {
	v := d.below(1<<31)<<32 | d.below(1<<31)<<1 | d.below(2)
	v >>= d.below(63)
	if d.below(2) == 0 {
		return ^v
	}
	return v
}

func (d *drawn) bytes(n int) []byte {
	p := make([]byte, n)
	for i := range p {
		p[i] = byte(d.below(256))
	}
	return p
}

func (d *drawn) token() token.Token {
	return token.Token(d.bytes(16))
}

// someBytes are n bytes of which no two beside each other are alike.
func someBytes(n int) []byte {
	p := make([]byte, n)
	for i := range p {
		p[i] = byte(7*i + 1)
	}
	return p
}

// parts are what a token is made of.
type parts struct {
	key                 []byte
	match, player, life int
}

func (p parts) make() token.Token {
	return token.Make(p.key, p.match, p.player, p.life)
}

func (p parts) check(t token.Token) api.Errno {
	return token.Check(p.key, p.match, p.player, p.life, t)
}

// want is the token by the library's own way.
func (p parts) want() token.Token {
	m := hmac.New(sha256.New, p.key)
	row := []byte{0x54}
	for _, v := range []int{p.match, p.player, p.life} {
		row = binary.AppendVarint(row, int64(v))
	}
	m.Write(row)
	return token.Token(m.Sum(nil)[:16])
}

// textOf is a token's text by the library's own way.
func textOf(t token.Token) string {
	return strings.Join([]string{hex.EncodeToString(t[:4]), hex.EncodeToString(t[4:8]), hex.EncodeToString(t[8:12]), hex.EncodeToString(t[12:])}, "-")
}

// keys are of the lengths about which a key fills a block, or is too long for one.
func keys() [][]byte {
	l := [][]byte{nil, {}, {0}, {255}, []byte("k"), []byte("key")}
	for _, n := range []int{2, 16, 31, 32, 33, 63, 64, 65, 127, 128, 129, 1000} {
		l = append(l, someBytes(n))
	}
	return l
}

// edgeNums are the ends, and those beside which a Num needs a byte more.
func edgeNums() []int {
	return []int{0, 1, -1, 63, 64, -64, -65, 8191, 8192, -8192, -8193, 1<<62 - 1, 1 << 62, -1 << 62, -1<<62 - 1, greatest, greatest - 1, least, least + 1}
}

// P17.1: Make

// The answers were worked out by another program.
func TestMakeByHand(t *testing.T) {
	key := []byte("key")
	for _, x := range []struct {
		name string
		parts
		want string
	}{
		{"a nil key", parts{nil, 0, 0, 0}, "6a10ca0c-aafa5d48-a1bdaca7-3ffd879a"},
		{"a nil key", parts{nil, 64, -1, 3}, "4bb7ed32-55de9ada-2aa65a2c-8defa384"},
		{"an empty key", parts{[]byte{}, 0, 0, 0}, "6a10ca0c-aafa5d48-a1bdaca7-3ffd879a"},
		{"an empty key", parts{[]byte{}, 64, -1, 3}, "4bb7ed32-55de9ada-2aa65a2c-8defa384"},
		{"a key of one byte", parts{[]byte("k"), 0, 0, 0}, "0eb9603d-3b0f2b1d-efbe8147-ee9784b8"},
		{"a key of one byte", parts{[]byte("k"), 64, -1, 3}, "b773cf41-e000ecc4-aa7560c2-00c9b67a"},
		{"a key of a block", parts{someBytes(64), 0, 0, 0}, "a50d7119-27054618-dc5b5c87-847237cf"},
		{"a key of a block", parts{someBytes(64), 64, -1, 3}, "5b5c8571-bb5f94c5-484040f6-d2923311"},
		{"a key of one byte more", parts{someBytes(65), 0, 0, 0}, "34fd4f81-8803f849-ad8836a2-a7a9a6b7"},
		{"a key of one byte more", parts{someBytes(65), 64, -1, 3}, "91b7e639-252e598e-06f9dff2-9641bdc2"},
		{"a long key", parts{someBytes(1000), 0, 0, 0}, "d4bbca25-ef5896ff-7d0bb38b-175364ec"},
		{"a long key", parts{someBytes(1000), 64, -1, 3}, "0a5a1b05-9a4b55ba-225ac5f8-5e378184"},
		{"noughts", parts{key, 0, 0, 0}, "e47b4489-233cfb61-b9472c9e-a4e5c37e"},
		{"match 1", parts{key, 1, 0, 0}, "cd068c85-ed12f9f3-ad03b761-e1962961"},
		{"match -1", parts{key, -1, 0, 0}, "549e3811-898f37d7-9e3af8d7-04bdb8ab"},
		{"the greatest match", parts{key, greatest, 0, 0}, "58e82ded-b7821e7d-de1d4111-f2291eed"},
		{"the least match", parts{key, least, 0, 0}, "e9c561be-e8045b40-deaef0be-6e89bcc4"},
		{"player 1", parts{key, 0, 1, 0}, "f18dc98f-9a62afaf-85ffd336-4baa1d86"},
		{"player -1", parts{key, 0, -1, 0}, "2c3c2c54-f751742e-20637af7-bc949f74"},
		{"the greatest player", parts{key, 0, greatest, 0}, "0fd253a6-76f549bd-e3f078a7-544d28ab"},
		{"the least player", parts{key, 0, least, 0}, "05f3588a-ce215ecf-549376f5-4d915c15"},
		{"life 1", parts{key, 0, 0, 1}, "e270a349-19b6e26a-266008ed-5bf013fb"},
		{"life -1", parts{key, 0, 0, -1}, "74fc186f-39fcabf7-7cd85a4d-06595e90"},
		{"the greatest life", parts{key, 0, 0, greatest}, "8e3b3192-1af031ee-f0cac67d-c4d5a562"},
		{"the least life", parts{key, 0, 0, least}, "013d16ba-a29a99f4-c56e7818-f107e570"},
		{"three numbers", parts{key, 1, 2, 3}, "e7041b1f-53d177d2-c19aed1f-34234769"},
		{"the same, from behind", parts{key, 3, 2, 1}, "4d6b4ac1-5a99fc41-98c097f1-5853a77d"},
		{"the same, two of them changed", parts{key, 2, 1, 3}, "69dd5921-9df8adf2-56310659-3970d763"},
	} {
		got := x.make()
		if text := textOf(got); text != x.want {
			t.Errorf("%s: got %s, want %s", x.name, text, x.want)
		}
	}
}

// The row of bytes stands here as it is laid: 54, and three Nums.
func TestMakeIsTheBeginningOfTheMac(t *testing.T) {
	for _, x := range []struct {
		parts
		row []byte
	}{
		{parts{nil, 0, 0, 0}, []byte{0x54, 0, 0, 0}},
		{parts{[]byte("key"), 64, -1, 3}, []byte{0x54, 0x80, 1, 1, 6}},
		{parts{[]byte("key"), 1, -65, 8192}, []byte{0x54, 2, 0x81, 1, 0x80, 0x80, 1}},
		{parts{someBytes(64), 5, 6, 7}, []byte{0x54, 10, 12, 14}},
		{parts{someBytes(65), -5, -6, -7}, []byte{0x54, 9, 11, 13}},
		{parts{someBytes(9), greatest, 0, least}, []byte("\x54\xfe\xff\xff\xff\xff\xff\xff\xff\xff\x01\x00\xff\xff\xff\xff\xff\xff\xff\xff\xff\x01")},
	} {
		m := hmac.New(sha256.New, x.key)
		m.Write(x.row)
		got := x.make()
		if want := m.Sum(nil)[:16]; string(got[:]) != string(want) {
			t.Errorf("%v: got % x, want % x", x.parts, got, want)
		}
	}
}

func TestMakeAtEdges(t *testing.T) {
	for _, key := range keys() {
		for _, v := range edgeNums() {
			for _, p := range []parts{{key, v, 0, 0}, {key, 0, v, 0}, {key, 0, 0, v}, {key, v, -3, 900}, {key, -3, v, 900}, {key, -3, 900, v}, {key, v, v, v}} {
				if got := p.make(); got != p.want() {
					t.Fatalf("%v: got %x, want %x", p, got, p.want())
				}
			}
		}
	}
}

func TestMakeOfEachThreeEdges(t *testing.T) {
	key := []byte("key")
	for _, match := range edgeNums() {
		for _, player := range edgeNums() {
			for _, life := range edgeNums() {
				p := parts{key, match, player, life}
				if got := p.make(); got != p.want() {
					t.Fatalf("%v: got %x, want %x", p, got, p.want())
				}
			}
		}
	}
}

func TestMakeOfDrawnNumbers(t *testing.T) {
	d := drawn(171)
	for range 5000 {
		p := parts{d.bytes(d.below(140)), d.num(), d.num(), d.num()}
		if got := p.make(); got != p.want() {
			t.Fatalf("%v: got %x, want %x", p, got, p.want())
		}
	}
}

// None of the three is left out, and none stands in another's place.
func TestNoTwoAreAlike(t *testing.T) {
	of := map[token.Token][3]int{}
	for _, match := range edgeNums() {
		for _, player := range edgeNums() {
			for _, life := range edgeNums() {
				x := token.Make([]byte("key"), match, player, life)
				if other, has := of[x]; has {
					t.Fatalf("%v and %v have one token", other, [3]int{match, player, life})
				}
				of[x] = [3]int{match, player, life}
			}
		}
	}
}

// A Mac fills a key up with noughts, and has the Sum of a longer one instead: so keys that are unlike may stand for one.
func TestKeysThatStandForOne(t *testing.T) {
	sum := sha256.Sum256(someBytes(65))
	for _, x := range []struct {
		name  string
		a, b  []byte
		alike bool
	}{
		{"nil and empty", nil, []byte{}, true},
		{"empty and a nought", nil, []byte{0}, true},
		{"a nought behind", []byte("key"), []byte("key\x00"), true},
		{"noughts up to a block", []byte("key"), append([]byte("key"), make([]byte, 61)...), true},
		{"noughts beyond a block", []byte("key"), append([]byte("key"), make([]byte, 62)...), false},
		{"a nought ahead", []byte("key"), []byte("\x00key"), false},
		{"beyond a block and its Sum", someBytes(65), sum[:], true},
		{"a block and all but its last byte", someBytes(64), someBytes(63), false},
		{"a block and a byte more", someBytes(64), someBytes(65), false},
		{"one digit (of two) at the end", []byte("key"), []byte("kex"), false},
		{"great letters", []byte("key"), []byte("KEY"), false},
	} {
		a, b := parts{x.a, 5, 6, 7}, parts{x.b, 5, 6, 7}
		if (a.make() == b.make()) != x.alike {
			t.Errorf("%s: %x and %x", x.name, a.make(), b.make())
		}
		if e := a.check(b.make()); (e == api.OK) != x.alike || !x.alike && e != api.ErrToken {
			t.Errorf("%s: Check answers %d", x.name, e)
		}
	}
}

// P17.1: Check

func TestCheckByHand(t *testing.T) {
	x := parts{[]byte("key"), 64, -1, 3}
	made := token.Token{0x20, 0xe4, 0x7a, 0xcf, 0x87, 0xca, 0xf4, 0xa8, 0x6d, 0x17, 0x5b, 0x5a, 0xe0, 0x30, 0x81, 0xac}
	for _, c := range []struct {
		name string
		of   parts
		t    token.Token
		want api.Errno
	}{
		{"its own", x, made, api.OK},
		{"another match", parts{x.key, 65, -1, 3}, made, api.ErrToken},
		{"the match below 0", parts{x.key, -64, -1, 3}, made, api.ErrToken},
		{"another player", parts{x.key, 64, -2, 3}, made, api.ErrToken},
		{"the player above 0", parts{x.key, 64, 1, 3}, made, api.ErrToken},
		{"a later life", parts{x.key, 64, -1, 4}, made, api.ErrToken},
		{"an elder life", parts{x.key, 64, -1, 2}, made, api.ErrToken},
		{"match and player changed", parts{x.key, -1, 64, 3}, made, api.ErrToken},
		{"player and life changed", parts{x.key, 64, 3, -1}, made, api.ErrToken},
		{"match and life changed", parts{x.key, 3, -1, 64}, made, api.ErrToken},
		{"another key", parts{[]byte("kez"), 64, -1, 3}, made, api.ErrToken},
		{"a longer key", parts{[]byte("key1"), 64, -1, 3}, made, api.ErrToken},
		{"a shorter key", parts{[]byte("ke"), 64, -1, 3}, made, api.ErrToken},
		{"no key", parts{nil, 64, -1, 3}, made, api.ErrToken},
		{"sixteen bytes 00", x, token.Token{}, api.ErrToken},
		{"sixteen bytes ff", x, token.Token([]byte(strings.Repeat("\xff", 16))), api.ErrToken},
		{"the first fifteen", x, token.Token(append(made[:15:15], 0)), api.ErrToken},
		{"from behind", x, token.Token{0xac, 0x81, 0x30, 0xe0, 0x5a, 0x5b, 0x17, 0x6d, 0xa8, 0xf4, 0xca, 0x87, 0xcf, 0x7a, 0xe4, 0x20}, api.ErrToken},
		{"noughts, and a nil key", parts{}, token.Token{}, api.ErrToken},
	} {
		if got := c.of.check(c.t); got != c.want {
			t.Errorf("%s: got %d, want %d", c.name, got, c.want)
		}
	}
}

func TestCheckOfATurnedBit(t *testing.T) {
	for _, key := range keys() {
		p := parts{key, 12, 34, 56}
		made := p.make()
		for bit := range 8 * len(made) {
			turned := made
			turned[bit/8] ^= 1 << (bit % 8)
			if e := p.check(turned); e != api.ErrToken {
				t.Fatalf("a key of %d bytes, bit %d turned: %d", len(key), bit, e)
			}
		}
		if e := p.check(made); e != api.OK {
			t.Errorf("a key of %d bytes: %d", len(key), e)
		}
	}
}

// Each of two bytes must count by itself: what turns one must not make good what turns another.
func TestCheckOfTwoTurnedBytes(t *testing.T) {
	p := parts{[]byte("key"), 12, 34, 56}
	made := p.make()
	for i := range made {
		for j := range i {
			for _, by := range []byte{1, 0x80, 0xff} {
				turned := made
				turned[i] ^= by
				turned[j] ^= by
				if e := p.check(turned); e != api.ErrToken {
					t.Fatalf("bytes %d and %d turned by %02x: %d", i, j, by, e)
				}
				turned = made
				turned[i] += by
				turned[j] -= by
				if e := p.check(turned); e != api.ErrToken {
					t.Fatalf("byte %d more, byte %d less by %02x: %d", i, j, by, e)
				}
			}
			turned := made
			turned[i], turned[j] = turned[j], turned[i]
			if e := p.check(turned); (e == api.OK) != (turned == made) {
				t.Fatalf("bytes %d and %d changed: %d", i, j, e)
			}
		}
	}
}

// Of edge numbers that differ at any place, only those of the token itself are right.
func TestCheckAtEdges(t *testing.T) {
	key := someBytes(65)
	for place := range 3 {
		for _, v := range edgeNums() {
			at := [3]int{7, 8, 9}
			at[place] = v
			made := token.Make(key, at[0], at[1], at[2])
			for _, other := range edgeNums() {
				want := api.ErrToken
				if other == v {
					want = api.OK
				}
				at[place] = other
				if e := token.Check(key, at[0], at[1], at[2], made); e != want {
					t.Fatalf("number %d: %d, where the token is of %d: got %d, want %d", place, other, v, e, want)
				}
			}
		}
	}
}
