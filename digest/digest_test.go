package digest_test

import (
	"bytes"
	"crypto/hmac"
	"crypto/sha256"
	"encoding/hex"
	"slices"
	"strings"
	"sync"
	"testing"

	"gauntlet/api"
	"gauntlet/digest"
)

// edgeLengths are those about which the padding needs a block more, or a block is full.
func edgeLengths() []int {
	return []int{
		0, 1, 2, 3, 4, 5, 31, 32, 33, 54, 55, 56, 57, 62, 63, 64, 65, 66,
		118, 119, 120, 121, 127, 128, 129, 183, 184, 191, 192, 193, 1000,
	}
}

// someBytes are n bytes that no small step repeats; each seed has its own.
func someBytes(n, seed int) []byte {
	p := make([]byte, n)
	x := uint32(seed)*2654435761 + 1
	for i := range p {
		x = x*1664525 + 1013904223
		p[i] = byte(x >> 24)
	}
	return p
}

func someHash(seed int) api.Hash {
	return api.Hash(someBytes(len(api.Hash{}), seed))
}

// sumOf is the digest by the library's own way.
func sumOf(p []byte) api.Hash {
	return api.Hash(sha256.Sum256(p))
}

// macOf is the digest under a key by the library's own way.
func macOf(key, p []byte) api.Hash {
	m := hmac.New(sha256.New, key)
	m.Write(p)
	return api.Hash(m.Sum(nil))
}

// plainMac is the digest under a key as the document tells it, word by word.
func plainMac(key, p []byte) api.Hash {
	if len(key) > 64 {
		h := sumOf(key)
		key = h[:]
	}
	inner, outer := make([]byte, 64), make([]byte, 64)
	for i := range inner {
		var b byte
		if i < len(key) {
			b = key[i]
		}
		inner[i], outer[i] = b^0x36, b^0x5c
	}
	h := sumOf(append(inner, p...))
	return sumOf(append(outer, h[:]...))
}

func fromHex(t *testing.T, text string) api.Hash {
	t.Helper()
	p, err := hex.DecodeString(text)
	if err != nil || len(p) != len(api.Hash{}) {
		t.Fatalf("no digest: %q", text)
	}
	return api.Hash(p)
}

func expect(t *testing.T, what string, got, want api.Hash) {
	t.Helper()
	if got != want {
		t.Errorf("%s: got %x, want %x", what, got, want)
	}
}

// P2.1

func TestSumOfKnownBytes(t *testing.T) {
	for _, x := range []struct {
		name, text, want string
	}{
		{"nothing", "", "e3b0c44298fc1c149afbf4c8996fb92427ae41e4649b934ca495991b7852b855"},
		{"a", "a", "ca978112ca1bbdcafac231b39a23dc4da786eff8147c4e72b9807785afee48bb"},
		{"abc", "abc", "ba7816bf8f01cfea414140de5dae2223b00361a396177a9cb410ff61f20015ad"},
		{"56 letters", "abcdbcdecdefdefgefghfghighijhijkijkljklmklmnlmnomnopnopq", "248d6a61d20638b8e5c026930c3e6039a33ce45964ff2167f6ecedd419db06c1"},
		{"112 letters", "abcdefghbcdefghicdefghijdefghijkefghijklfghijklmghijklmnhijklmnoijklmnopjklmnopqklmnopqrlmnopqrsmnopqrstnopqrstu", "cf5b16a778af8380036ce59e7b0492370b249b11e8f07a51afac45037afee9d1"},
		{"a million a", strings.Repeat("a", 1_000_000), "cdc76e5c9914fb9281a1c7e284d73e67f1809a48a497200e046d39ccc7112cd0"},
	} {
		expect(t, x.name, digest.Sum([]byte(x.text)), fromHex(t, x.want))
	}
}

func TestSumOfNilIsThatOfNothing(t *testing.T) {
	expect(t, "nil", digest.Sum(nil), sumOf(nil))
	expect(t, "empty", digest.Sum([]byte{}), digest.Sum(nil))
}

func TestSumOfEachShortLength(t *testing.T) {
	for n := range 400 {
		if p := someBytes(n, n); digest.Sum(p) != sumOf(p) {
			t.Errorf("%d bytes: got %x, want %x", n, digest.Sum(p), sumOf(p))
		}
	}
}

// Bytes that are all alike find out a word that is left out, or a block's end that is taken for bytes.
func TestSumOfAlikeBytes(t *testing.T) {
	for _, n := range edgeLengths() {
		for _, b := range []byte{0x00, 0x01, 0x7f, 0x80, 0xff} {
			if p := bytes.Repeat([]byte{b}, n); digest.Sum(p) != sumOf(p) {
				t.Errorf("%d bytes %02x: got %x, want %x", n, b, digest.Sum(p), sumOf(p))
			}
		}
	}
}

func TestSumHangsOnEachBinaryDigit(t *testing.T) {
	for _, n := range []int{1, 55, 56, 64, 65, 128} {
		p := someBytes(n, 7)
		plain := digest.Sum(p)
		for i := range 8 * n {
			p[i/8] ^= 1 << (i % 8)
			if digest.Sum(p) != sumOf(p) || digest.Sum(p) == plain {
				t.Errorf("%d bytes, digit %d turned: got %x, want %x", n, i, digest.Sum(p), sumOf(p))
			}
			p[i/8] ^= 1 << (i % 8)
		}
	}
}

// Each of these counts of binary digits needs one byte more than those before it.
func TestSumOfManyBytes(t *testing.T) {
	for _, n := range []int{1 << 13, 1<<16 + 1, 1<<21 - 1, 1 << 21, 1<<21 + 55, 1<<24 + 3} {
		p := someBytes(n, 3)
		if digest.Sum(p) != sumOf(p) {
			t.Errorf("%d bytes: got %x, want %x", n, digest.Sum(p), sumOf(p))
		}
	}
}

// The count of binary digits is beyond 32 of them here.
func TestSumOfHalfAGigabyte(t *testing.T) {
	if testing.Short() {
		t.Skip("takes seconds")
	}
	p := make([]byte, 1<<29+1)
	p[1<<29] = 0x5a
	expect(t, "2^29 + 1 bytes", digest.Sum(p), sumOf(p))
}

// P2.2

func TestLinkIsTheSumOfBoth(t *testing.T) {
	lengths := append(edgeLengths(), 22, 23, 24, 86, 87, 88, 95, 96, 97, 1<<16, 1<<20+7)
	for i, n := range lengths {
		for _, h := range []api.Hash{{}, someHash(i), api.Hash(bytes.Repeat([]byte{0xff}, 32))} {
			p := someBytes(n, n)
			got, both := digest.Link(h, p), slices.Concat(h[:], p)
			if got != sumOf(both) || got != digest.Sum(both) {
				t.Errorf("%x and %d bytes: got %x, want %x", h, n, got, sumOf(both))
			}
		}
	}
}

func TestLinkOfNothingIsTheSumOfTheDigest(t *testing.T) {
	h := someHash(1)
	expect(t, "nil", digest.Link(h, nil), sumOf(h[:]))
	expect(t, "empty", digest.Link(h, []byte{}), sumOf(h[:]))
	expect(t, "noughts and nothing", digest.Link(api.Hash{}, nil), fromHex(t, "66687aadf862bd776c8fc18b8e9f8e20089714856ee233b3902a591d0d5f2925"))
}

func TestLinksMakeAChain(t *testing.T) {
	var got, want api.Hash
	for i := range 100 {
		p := someBytes(i, i)
		got = digest.Link(got, p)
		want = sumOf(append(want[:], p...))
		if got != want {
			t.Fatalf("link %d: got %x, want %x", i, got, want)
		}
	}
}

func TestLinkHangsOnTheOrder(t *testing.T) {
	h, p := someHash(1), someHash(2)
	if digest.Link(h, p[:]) == digest.Link(p, h[:]) {
		t.Error("two digests linked in either order have one digest")
	}
}

func TestMacOfKnownBytes(t *testing.T) {
	for _, x := range []struct {
		name, key, text, want string
	}{
		{"the example", "key", "The quick brown fox jumps over the lazy dog", "f7bc83f430538424b13298e6aa6fb143ef4d59a14946175997479dbc2d1a3cd8"},
		{"no key, no bytes", "", "", "b613679a0814d9ec772f95d778c35fc5ff1697c493715653c6c712144292c5ad"},
		{"20 bytes 0b", strings.Repeat("\x0b", 20), "Hi There", "b0344c61d8db38535ca8afceaf0bf12b881dc200c9833da726e9376c2e32cff7"},
		{"Jefe", "Jefe", "what do ya want for nothing?", "5bdcc146bf60754e6a042426089575c75a003f089d2739839dec58b964ec3843"},
		{"131 bytes aa", strings.Repeat("\xaa", 131), "Test Using Larger Than Block-Size Key - Hash Key First", "60e431591ee0b67f0d8a26aacbf5b77f8e0bc6213728c5140546040f0ee37f54"},
	} {
		expect(t, x.name, digest.Mac([]byte(x.key), []byte(x.text)), fromHex(t, x.want))
	}
}

func TestMacOfEachKeyLength(t *testing.T) {
	for n := range 200 {
		key, p := someBytes(n, n), someBytes(50, n)
		if got := digest.Mac(key, p); got != macOf(key, p) || got != plainMac(key, p) {
			t.Errorf("key of %d bytes: got %x, want %x", n, got, macOf(key, p))
		}
	}
}

func TestMacOfManyBytes(t *testing.T) {
	lengths := append(edgeLengths(), 1<<16, 1<<20+7)
	for _, k := range []int{0, 1, 32, 63, 64, 65, 66, 128, 1 << 12} {
		for _, n := range lengths {
			key, p := someBytes(k, 1), someBytes(n, 2)
			if got := digest.Mac(key, p); got != macOf(key, p) {
				t.Errorf("key of %d and %d bytes: got %x, want %x", k, n, got, macOf(key, p))
			}
		}
	}
}

func TestMacFillsAShortKeyWithNoughts(t *testing.T) {
	p := []byte("bytes")
	for _, n := range []int{0, 1, 32, 63} {
		key := someBytes(n, 4)
		full := append(slices.Clone(key), make([]byte, 64-n)...)
		expect(t, "filled up to a block", digest.Mac(key, p), digest.Mac(full, p))
	}
}

func TestMacTakesTheSumOfALongKeyAlone(t *testing.T) {
	p := []byte("bytes")
	for _, n := range []int{65, 66, 127, 128, 129, 1000} {
		key := someBytes(n, 5)
		h := sumOf(key)
		expect(t, "longer than a block", digest.Mac(key, p), digest.Mac(h[:], p))
	}
	for _, n := range []int{63, 64} {
		key := someBytes(n, 5)
		h := sumOf(key)
		if digest.Mac(key, p) == digest.Mac(h[:], p) {
			t.Errorf("the key of %d bytes counts as its Sum", n)
		}
	}
}

func TestMacOfNil(t *testing.T) {
	p, none := []byte("bytes"), []byte{}
	expect(t, "no key", digest.Mac(nil, p), macOf(none, p))
	expect(t, "an empty key", digest.Mac(none, p), macOf(none, p))
	expect(t, "no bytes", digest.Mac(p, nil), macOf(p, none))
	expect(t, "empty bytes", digest.Mac(p, none), macOf(p, none))
	expect(t, "neither", digest.Mac(nil, nil), macOf(none, none))
}

func TestHexOfKnownDigests(t *testing.T) {
	var each api.Hash
	for i := range each {
		each[i] = byte(i*8 + 7)
	}
	for _, x := range []struct {
		name string
		h    api.Hash
		want string
	}{
		{"noughts", api.Hash{}, strings.Repeat("0", 64)},
		{"ff", api.Hash(bytes.Repeat([]byte{0xff}, 32)), strings.Repeat("f", 64)},
		{"one in front", api.Hash{0: 1}, "01" + strings.Repeat("0", 62)},
		{"sixteen at the end", api.Hash{31: 0x10}, strings.Repeat("0", 62) + "10"},
		{"rising", each, "070f171f272f373f474f575f676f777f878f979fa7afb7bfc7cfd7dfe7eff7ff"},
		{"abc", digest.Sum([]byte("abc")), "ba7816bf8f01cfea414140de5dae2223b00361a396177a9cb410ff61f20015ad"},
		{"the key", digest.Mac([]byte("key"), []byte("The quick brown fox jumps over the lazy dog")), "f7bc83f430538424b13298e6aa6fb143ef4d59a14946175997479dbc2d1a3cd8"},
	} {
		if got := digest.Hex(x.h); got != x.want {
			t.Errorf("%s: got %q, want %q", x.name, got, x.want)
		}
	}
}

func TestHexOfEachByteAtEachPlace(t *testing.T) {
	for i := range len(api.Hash{}) {
		for b := range 256 {
			h := someHash(b)
			h[i] = byte(b)
			if got := digest.Hex(h); got != hex.EncodeToString(h[:]) || len(got) != 64 {
				t.Fatalf("byte %02x at %d: got %q, want %q", b, i, got, hex.EncodeToString(h[:]))
			}
		}
	}
}

// P2.3

// roomy is n bytes with more of them around, all of which stay as they are.
func roomy(n, seed int) (whole, p []byte) {
	whole = someBytes(n+400, seed)
	return whole, whole[100 : 100+n]
}

// calls are the three that take bytes; those that take one list have no use for the key.
func calls() map[string]func(key, p []byte) api.Hash {
	return map[string]func(key, p []byte) api.Hash{
		"Sum":  func(key, p []byte) api.Hash { return digest.Sum(p) },
		"Link": func(key, p []byte) api.Hash { return digest.Link(someHash(1), p) },
		"Mac":  digest.Mac,
	}
}

func TestWhatIsHandedInStays(t *testing.T) {
	for name, call := range calls() {
		for _, k := range []int{0, 1, 32, 63, 64, 65, 200} {
			for _, n := range edgeLengths() {
				keyRoom, key := roomy(k, 1)
				room, p := roomy(n, 2)
				call(key, p)
				if !bytes.Equal(keyRoom, someBytes(k+400, 1)) {
					t.Errorf("%s: the key of %d bytes, or the room about it, has changed", name, k)
				}
				if !bytes.Equal(room, someBytes(n+400, 2)) {
					t.Errorf("%s: the %d bytes, or the room about them, have changed", name, n)
				}
			}
		}
	}
}

func TestTheRoomAboutBytesDoesNotCount(t *testing.T) {
	for name, call := range calls() {
		for _, n := range edgeLengths() {
			_, key := roomy(n, 1)
			_, p := roomy(n, 2)
			if call(key, p) != call(slices.Clip(slices.Clone(key)), slices.Clip(slices.Clone(p))) {
				t.Errorf("%s: %d bytes with room behind them have another digest", name, n)
			}
		}
	}
}

func TestNothingIsKept(t *testing.T) {
	for name, call := range calls() {
		for _, n := range edgeLengths() {
			key, p := someBytes(n, 1), someBytes(n, 2)
			first := call(key, p)
			stays := first
			for i := range p {
				key[i] ^= 0xa5
				p[i] ^= 0x5a
			}
			fresh := call(slices.Clone(key), slices.Clone(p))
			if first != stays {
				t.Errorf("%s: what was answered for %d bytes has changed with them", name, n)
			}
			if call(key, p) != fresh {
				t.Errorf("%s: %d bytes that were changed have not the digest of what they are now", name, n)
			}
			if call(someBytes(n, 1), someBytes(n, 2)) != first {
				t.Errorf("%s: %d bytes have another digest behind other calls", name, n)
			}
		}
	}
}

func TestADigestThatIsHandedInStays(t *testing.T) {
	h := someHash(3)
	digest.Link(h, someBytes(100, 1))
	text := digest.Hex(h)
	if h != someHash(3) {
		t.Error("the digest has changed")
	}
	h[0] ^= 0xff
	if want := someHash(3); text != hex.EncodeToString(want[:]) {
		t.Error("the text has changed with the digest")
	}
}

func TestTheKeyAndTheBytesMayBeOneList(t *testing.T) {
	for _, n := range []int{0, 1, 63, 64, 65, 300} {
		whole := someBytes(n, 6)
		expect(t, "key and bytes of one list", digest.Mac(whole, whole), macOf(whole, whole))
		expect(t, "the key is a piece of the bytes", digest.Mac(whole[:n/2], whole), macOf(whole[:n/2], whole))
	}
}

func TestManyAtOnce(t *testing.T) {
	key, p := someBytes(70, 1), someBytes(1000, 2)
	for name, call := range calls() {
		want := call(key, p)
		got := make([]api.Hash, 8)
		var all sync.WaitGroup
		for i := range got {
			all.Go(func() { got[i] = call(key, p) })
		}
		all.Wait()
		for i := range got {
			if got[i] != want {
				t.Errorf("%s: one of many at once: got %x, want %x", name, got[i], want)
			}
		}
	}
}
