package token_test

import (
	"bytes"
	"sync"
	"testing"

	"gauntlet/api"
	"gauntlet/token"
)

// P17.2: there and back

func TestParseOfTextIsTheToken(t *testing.T) {
	for _, x := range manyTokens() {
		if back, e := token.Parse(token.Text(x)); back != x || e != api.OK {
			t.Fatalf("% x: got % x, %d", x, back, e)
		}
	}
}

func TestTextOfParseIsTheText(t *testing.T) {
	d := drawn(174)
	const digits = "0123456789abcdef"
	for range 5000 {
		b := []byte("00000000-00000000-00000000-00000000")
		for i := range b {
			if b[i] == '0' {
				b[i] = digits[d.below(16)]
			}
		}
		x, e := token.Parse(string(b))
		if got := token.Text(x); got != string(b) || e != api.OK {
			t.Fatalf("%q: got %q, %d", b, got, e)
		}
	}
}

func TestCheckTakesWhatMakeMade(t *testing.T) {
	d := drawn(175)
	for _, key := range keys() {
		for range 200 {
			p := parts{key, d.num(), d.num(), d.num()}
			if e := p.check(p.make()); e != api.OK {
				t.Fatalf("%v: %d", p, e)
			}
		}
		for _, v := range edgeNums() {
			for _, p := range []parts{{key, v, 0, 0}, {key, 0, v, 0}, {key, 0, 0, v}} {
				if e := p.check(p.make()); e != api.OK {
					t.Fatalf("%v: %d", p, e)
				}
			}
		}
	}
}

// What a player was told as a text lets him in again, and nobody else.
func TestCheckTakesATokenThatWasAText(t *testing.T) {
	d := drawn(176)
	for range 2000 {
		p := parts{d.bytes(d.below(80)), d.num(), d.num(), d.num()}
		x, e := token.Parse(token.Text(p.make()))
		if e != api.OK || p.check(x) != api.OK {
			t.Fatalf("%v: Parse %d, Check %d", p, e, p.check(x))
		}
		for _, other := range []parts{{p.key, p.match + 1, p.player, p.life}, {p.key, p.match, p.player + 1, p.life}, {p.key, p.match, p.player, p.life + 1}, {append([]byte("x"), p.key...), p.match, p.player, p.life}} {
			if e := other.check(x); e != api.ErrToken {
				t.Fatalf("the token of %v for %v: %d", p, other, e)
			}
		}
	}
}

// P17.2: what is handed in

// roomy is a key with room behind it, and all of that.
func roomy(n int) (key, all []byte) {
	all = someBytes(n + 150)
	return all[:n], all
}

func TestAKeyStays(t *testing.T) {
	for n := range 140 {
		key, all := roomy(n)
		was := bytes.Clone(all)
		p := parts{key, 64, -1, 3}
		made := p.make()
		if !bytes.Equal(all, was) {
			t.Fatalf("Make changes a key of %d bytes, or its room: % x", n, all)
		}
		other := made
		other[n%16]++
		if p.check(made) != api.OK || p.check(other) != api.ErrToken {
			t.Fatalf("a key of %d bytes: %d, %d", n, p.check(made), p.check(other))
		}
		if !bytes.Equal(all, was) {
			t.Fatalf("Check changes a key of %d bytes, or its room: % x", n, all)
		}
	}
}

// The room behind a key is none of it.
func TestTheRoomBehindAKeyDoesNotCount(t *testing.T) {
	for n := range 140 {
		key, all := roomy(n)
		p := parts{key, 5, 6, 7}
		made := p.make()
		for i := n; i < len(all); i++ {
			all[i] ^= 0xa5
		}
		if alone := (parts{bytes.Clone(key), 5, 6, 7}); p.make() != made || p.check(made) != api.OK || alone.make() != made {
			t.Fatalf("a key of %d bytes: % x, % x, % x", n, made, p.make(), alone.make())
		}
	}
}

func TestAKeyThatIsChangedChangesNoToken(t *testing.T) {
	for _, n := range []int{1, 3, 32, 63, 64, 65, 1000} {
		key, all := roomy(n)
		p := parts{key, 64, -1, 3}
		made := p.make()
		kept, text := made, token.Text(made)
		elder := bytes.Clone(key)
		for i := range all {
			all[i] ^= 0xa5
		}
		if made != kept || token.Text(made) != text {
			t.Errorf("a key of %d bytes: % x became % x", n, kept, made)
		}
		if e := p.check(made); e != api.ErrToken {
			t.Errorf("a key of %d bytes that was changed: %d", n, e)
		}
		if p.make() != p.want() || p.make() == kept {
			t.Errorf("a key of %d bytes that was changed: % x", n, p.make())
		}
		if e := (parts{elder, 64, -1, 3}).check(made); e != api.OK {
			t.Errorf("the elder key of %d bytes: %d", n, e)
		}
	}
}

// A token is an array: who changes one that was handed in or answered changes no other.
func TestTokensAreValues(t *testing.T) {
	p := parts{[]byte("key"), 1, 2, 3}
	first, second := p.make(), p.make()
	if first != second {
		t.Fatalf("% x and % x", first, second)
	}
	for i := range first {
		first[i] = '#'
	}
	if second != p.want() || p.make() != second || p.check(second) != api.OK || p.check(first) != api.ErrToken {
		t.Errorf("% x became % x", p.want(), second)
	}
	parsed, _ := token.Parse(mixed)
	parsed[0] = '#'
	if again, e := token.Parse(mixed); again[0] != 1 || e != api.OK {
		t.Errorf("% x, %d", again, e)
	}
	of := map[token.Token]int{second: 5}
	if of[p.make()] != 5 || of[parsed] != 0 {
		t.Error("tokens are not held against each other by their bytes")
	}
}

// Nothing is kept from call to call, so that many may call at once, with one key.
func TestManyAtOnce(t *testing.T) {
	key := someBytes(100)
	var wg sync.WaitGroup
	for g := range 8 {
		wg.Go(func() {
			for i := range 300 {
				p := parts{key, g, i, -g}
				x, e := token.Parse(token.Text(p.make()))
				if x != p.want() || e != api.OK || p.check(x) != api.OK {
					t.Errorf("%d, %d: % x, %d", g, i, x, e)
				}
			}
		})
	}
	wg.Wait()
}
