package chap_test

import (
	"bytes"
	"encoding/hex"
	"strings"
	"testing"

	"citadel/api"
	"citadel/chap"
)

// P16.1: the chapter's example, and others, as digests that are written out.
func TestAnswerWrittenOut(t *testing.T) {
	for _, x := range []struct {
		id                int
		secret, challenge string
		want              string
	}{
		{1, "s", "c", "ae01685b8e3b2d411bfe5a0f9ea1f37437233190c34b69a5873752b072f4cb8d"},
		{257, "s", "c", "ae01685b8e3b2d411bfe5a0f9ea1f37437233190c34b69a5873752b072f4cb8d"},
		{-255, "s", "c", "ae01685b8e3b2d411bfe5a0f9ea1f37437233190c34b69a5873752b072f4cb8d"},
		{0, "", "", "6e340b9cffb37a989ca544e6bb780a2c78901d3fb33738768511a30617afa01d"},
		{256, "", "", "6e340b9cffb37a989ca544e6bb780a2c78901d3fb33738768511a30617afa01d"},
		{255, "", "", "a8100ae6aa1940d0b663bb31cd466142ebbdbd5187131b92d93818987832eb89"},
		{-1, "", "", "a8100ae6aa1940d0b663bb31cd466142ebbdbd5187131b92d93818987832eb89"},
		{255, "secret", strings.Repeat("\x00", 16), "db97ac93f85250a5bf80a8bf9b3890fa1ff3f96b7292e5c0515d4eb300ab3179"},
		{0, "secret", "", "7c8cc910759bf004c2a3e02379c08e20d1215469f19c0f5831879acfc2089387"},
		{0, "", "challenge", "87db93dd1162fd645d2ed88d059e791d4f32e37138f97555828768ade947ddb9"},
		{7, strings.Repeat("x", 64), strings.Repeat("y", 64), "0337acd9065a8732dca15ceefac18563f0bdda7e51971f9deb43c2870bbef37d"},
	} {
		answer := chap.Answer(x.id, []byte(x.secret), []byte(x.challenge))
		if hex.EncodeToString(answer[:]) != x.want {
			t.Errorf("Answer(%d, %q, %q): %x, want %s", x.id, x.secret, x.challenge, answer, x.want)
		}
		if !chap.Right(x.id, []byte(x.secret), []byte(x.challenge), answer[:]) {
			t.Errorf("Right(%d, %q, %q): not right", x.id, x.secret, x.challenge)
		}
	}
}

// P16.1: answers of all numbers from 0 to 255, and of others modulo 256.
func TestAnswerOfAllNumbers(t *testing.T) {
	secret, challenge := []byte("the secret"), []byte("the challenge")
	for n := -600; n <= 600; n++ {
		if got, want := chap.Answer(n, secret, challenge), plainAnswer(n, secret, challenge); got != want {
			t.Errorf("number %d: %x, want %x", n, got, want)
		}
	}
	for _, n := range ids {
		want := plainAnswer(n, secret, challenge)
		if got := chap.Answer(n, secret, challenge); got != want || !chap.Right(n, secret, challenge, want[:]) {
			t.Errorf("number %d: %x, want %x", n, got, want)
		}
	}
}

// P16.1: secrets and challenges of all lengths, also of none, and long.
func TestAnswerOfAllLengths(t *testing.T) {
	r := dice(1)
	for _, s := range sizes {
		for _, c := range sizes {
			if s+c > 70000 {
				continue
			}
			id, secret, challenge := anyNumber(r), anyBytes(r, s), anyBytes(r, c)
			want := plainAnswer(id, secret, challenge)
			if got := chap.Answer(id, secret, challenge); got != want || !chap.Right(id, secret, challenge, want[:]) {
				t.Errorf("number %d, a secret of %d bytes, a challenge of %d: %x, want %x", id, s, c, got, want)
			}
		}
	}
	secret, challenge := anyBytes(r, 1<<20), anyBytes(r, 1<<20+1)
	if got, want := chap.Answer(9, secret, challenge), plainAnswer(9, secret, challenge); got != want {
		t.Errorf("a great text: %x, want %x", got, want)
	}
}

// P16.1: nil and empty rows mean the same, also with room behind them.
func TestAnswerOfNothing(t *testing.T) {
	none := [][]byte{nil, {}, make([]byte, 0, 9)}
	some := []byte("some")
	for i, a := range none {
		for k, b := range none {
			want := plainAnswer(3, nil, nil)
			if got := chap.Answer(3, a, b); got != want || !chap.Right(3, a, b, want[:]) {
				t.Errorf("%d, %d: %x, want %x", i, k, got, want)
			}
		}
		want := plainAnswer(3, some, nil)
		if chap.Answer(3, some, a) != want || chap.Answer(3, a, some) != want {
			t.Errorf("%d: want %x", i, want)
		}
	}
}

// P16.1: the answer is the text's digest, so it goes with a byte that goes from the secret's end to the challenge's beginning, and that alone.
func TestAnswerOfTheSameText(t *testing.T) {
	text := []byte("secret and challenge")
	want := plainAnswer(5, text, nil)
	for at := range len(text) + 1 {
		if got := chap.Answer(5, text[:at], text[at:]); got != want || !chap.Right(5, text[:at], text[at:], want[:]) {
			t.Errorf("parted at %d: %x, want %x", at, got, want)
		}
		if chap.Right(5, text[at:], text[:at], want[:]) != (at == 0 || at == len(text)) {
			t.Errorf("parted at %d, and changed about", at)
		}
	}
}

// asked is what an answer is asked for.
type asked struct {
	id                int
	secret, challenge string
}

// manyAsked are numbers, secrets and challenges, all of unlike texts.
func manyAsked() []asked {
	var all []asked
	seen := map[string]int{}
	for _, id := range []int{0, 1, 2, 128, 255} {
		for _, secret := range []string{"", "s", "t", "secret", "secreT", "Secret", "secret\x00", strings.Repeat("s", 64), strings.Repeat("s", 65)} {
			for _, challenge := range []string{"", "c", "d", "\x00", strings.Repeat("c", 16), strings.Repeat("c", 15) + "d", strings.Repeat("c", 32), strings.Repeat("\x00", 64)} {
				text := string(plainText(id, []byte(secret), []byte(challenge)))
				if seen[text]++; seen[text] == 1 {
					all = append(all, asked{id, secret, challenge})
				}
			}
		}
	}
	return all
}

// P16.2: an answer is right for its own number, secret and challenge, and for none of the others.
func TestRightForItsOwn(t *testing.T) {
	all := manyAsked()
	answers := make([]api.Sum, len(all))
	for i, x := range all {
		answers[i] = chap.Answer(x.id, []byte(x.secret), []byte(x.challenge))
	}
	for i, x := range all {
		for k := range all {
			if chap.Right(x.id, []byte(x.secret), []byte(x.challenge), answers[k][:]) != (i == k) {
				t.Errorf("%+v: the answer of %+v", x, all[k])
			}
		}
	}
}

// P16.2: of all numbers from -300 to 600 an answer is right for those that are its own modulo 256.
func TestRightForItsOwnNumber(t *testing.T) {
	secret, challenge := []byte("s"), []byte("c")
	for _, own := range []int{0, 1, 7, 254, 255} {
		answer := plainAnswer(own, secret, challenge)
		for n := -300; n <= 600; n++ {
			if chap.Right(n, secret, challenge, answer[:]) != ((n-own)%256 == 0) {
				t.Errorf("the answer of number %d, asked for number %d", own, n)
			}
		}
	}
}

// P16.2: where a bit of the secret or of the challenge is another one, so is the answer.
func TestRightHangsOnEachBit(t *testing.T) {
	r := dice(2)
	secret, challenge := anyBytes(r, 24), anyBytes(r, 32)
	answer := plainAnswer(9, secret, challenge)
	for _, row := range [][]byte{secret, challenge} {
		for bit := range 8 * len(row) {
			row[bit/8] ^= 1 << (bit % 8)
			if chap.Right(9, secret, challenge, answer[:]) {
				t.Errorf("a row of %d bytes, but for bit %d: right", len(row), bit)
			}
			row[bit/8] ^= 1 << (bit % 8)
		}
		for n := range row {
			if chap.Right(9, row[:n], challenge, answer[:]) || chap.Right(9, secret, row[:n], answer[:]) {
				t.Errorf("a row of %d bytes cut at %d: right", len(row), n)
			}
		}
	}
	if !chap.Right(9, secret, challenge, answer[:]) {
		t.Error("not right")
	}
}

// P16.1: an answer with one bit changed, or with several, isn't right.
func TestRightOfChangedAnswers(t *testing.T) {
	secret, challenge := []byte("secret"), []byte("challenge")
	answer := plainAnswer(4, secret, challenge)
	for bit := range 256 {
		wrong := answer
		wrong[bit/8] ^= 1 << (bit % 8)
		if chap.Right(4, secret, challenge, wrong[:]) {
			t.Errorf("right, but for bit %d", bit)
		}
		for other := range bit {
			if other%8 != bit%8 {
				continue
			}
			two := wrong
			two[other/8] ^= 1 << (other % 8)
			if chap.Right(4, secret, challenge, two[:]) {
				t.Errorf("right, but for bits %d and %d", bit, other)
			}
		}
	}
	if !chap.Right(4, secret, challenge, answer[:]) {
		t.Error("not right")
	}
}

// P16.1: an answer that is too short, too long, or none, isn't right.
func TestRightOfOtherLengths(t *testing.T) {
	secret, challenge := []byte("secret"), []byte("challenge")
	answer := plainAnswer(4, secret, challenge)
	for n := range answer {
		if chap.Right(4, secret, challenge, answer[:n]) || chap.Right(4, secret, challenge, answer[32-n:]) {
			t.Errorf("%d bytes of it: right", n)
		}
		if n > 0 && (chap.Right(4, secret, challenge, answer[n:]) || chap.Right(4, secret, challenge, append(bytes.Clone(answer[:n]), make([]byte, 32-n)...))) {
			t.Errorf("cut at %d: right", n)
		}
	}
	for _, behind := range [][]byte{{0}, {1}, {0xff}, make([]byte, 32), make([]byte, 224), make([]byte, 256), answer[:], make([]byte, 65536-32), make([]byte, 65536)} {
		if chap.Right(4, secret, challenge, append(answer[:], behind...)) || chap.Right(4, secret, challenge, append(bytes.Clone(behind), answer[:]...)) {
			t.Errorf("with %d bytes more: right", len(behind))
		}
	}
	for i, none := range [][]byte{nil, {}, make([]byte, 0, 32), make([]byte, 32), bytes.Repeat([]byte{0xff}, 32)} {
		if chap.Right(4, secret, challenge, none) || chap.Right(0, nil, nil, none) {
			t.Errorf("none, %d: right", i)
		}
	}
	if room := append(bytes.Clone(answer[:]), 7); !chap.Right(4, secret, challenge, room[:32]) {
		t.Error("with room behind it: not right")
	}
}

// P16.3: neither what is handed in nor the room behind it is changed, also where the rows share their memory.
func TestAnswerChangesNothing(t *testing.T) {
	r := dice(3)
	for _, n := range []int{0, 1, 31, 32, 33, 55, 64, 200} {
		secret, secretRoom := roomy(anyBytes(r, n))
		challenge, challengeRoom := roomy(anyBytes(r, n/2))
		right := plainAnswer(n, secret, challenge)
		answer, answerRoom := roomy(right[:])
		ahead := [][]byte{bytes.Clone(secretRoom), bytes.Clone(challengeRoom), bytes.Clone(answerRoom)}
		chap.Answer(n, secret, challenge)
		chap.Right(n, secret, challenge, answer)
		chap.Right(n, secret, challenge, answer[:20])
		chap.Right(n, secret, secret, secret)
		for i, room := range [][]byte{secretRoom, challengeRoom, answerRoom} {
			if !bytes.Equal(room, ahead[i]) {
				t.Errorf("%d bytes, row %d: changed", n, i)
			}
		}
	}
	shared := anyBytes(r, 90)
	ahead := bytes.Clone(shared)
	if got, want := chap.Answer(1, shared[:50], shared[20:]), plainAnswer(1, ahead[:50], ahead[20:]); got != want || !bytes.Equal(shared, ahead) {
		t.Errorf("rows that share: %x, want %x", got, want)
	}
}

// P16.3: what is handed in isn't kept: written over behind the call, it changes no answer, neither one that was given nor one that is.
func TestAnswerKeepsNothing(t *testing.T) {
	secret, challenge := []byte("secret"), []byte("challenge")
	want := plainAnswer(4, secret, challenge)
	first, second := chap.Answer(4, secret, challenge), chap.Answer(4, secret, challenge)
	copy(secret, "another")
	copy(challenge, "something")
	clear(first[:])
	if second != want {
		t.Errorf("%x, want %x", second, want)
	}
	if got, want := chap.Answer(4, secret, challenge), plainAnswer(4, secret, challenge); got != want || chap.Right(4, secret, challenge, second[:]) {
		t.Errorf("behind it: %x, want %x", got, want)
	}
	if !chap.Right(4, []byte("secret"), []byte("challenge"), second[:]) {
		t.Error("behind it: not right")
	}
}
