package token_test

import (
	"math/rand"
	"regexp"
	"slices"
	"strings"
	"testing"

	"junto/api"
	"junto/token"
)

// signs are all signs, and reservedNames all reserved names.
var (
	signs         = strings.Fields("( ) [ ] { } , : ; = == < + - * & | ^ !")
	reservedNames = strings.Fields("in from let if else for to out all def return num bit word")
)

// The references for what lies before a token, and for the tokens of each kind as they occur in a text.
var (
	gapForm  = regexp.MustCompile(`^(?s:[ \t\r\n]|//[^\n]*)*`)
	nameForm = regexp.MustCompile(`^[a-z][a-z0-9_]*`)
	numForm  = regexp.MustCompile(`^[0-9]+`)
	signForm = regexp.MustCompile(`^(==|[][(){},:;=<+*&|^!-])`)
)

// isLarge is the reference for numbers beyond the limit: as texts of the same length, numbers have the order of their
// values.
func isLarge(number string) bool {
	return len(number) > 10 || len(number) == 10 && number > "4294967295"
}

// found is the reference for the token at the start of a text, without its offset.
func found(text string) (api.Token, api.Errno) {
	if name := nameForm.FindString(text); name != "" {
		if len(name) > 24 {
			return api.Token{}, api.ErrLimit
		}
		return api.Token{Kind: api.ToName, Text: name}, api.OK
	}
	if number := numForm.FindString(text); number != "" {
		if isLarge(number) {
			return api.Token{}, api.ErrLimit
		}
		return api.Token{Kind: api.ToNumber, Text: number}, api.OK
	}
	if sign := signForm.FindString(text); sign != "" {
		return api.Token{Kind: api.ToSign, Text: sign}, api.OK
	}
	return api.Token{}, api.ErrForm
}

// answer is what Read returned.
type answer struct {
	l  []api.Token
	at int
	e  api.Errno
}

func read(text string) answer {
	l, at, e := token.Read(text)
	return answer{l, at, e}
}

func (a answer) equals(b answer) bool {
	return a.at == b.at && a.e == b.e && slices.Equal(a.l, b.l)
}

// reference is the reference for Read.
func reference(text string) answer {
	if len(text) > 20000 {
		return answer{nil, 0, api.ErrLimit}
	}
	var l []api.Token
	for at := 0; ; {
		at += len(gapForm.FindString(text[at:]))
		if at == len(text) {
			return answer{l, 0, api.OK}
		}
		t, e := found(text[at:])
		if e != api.OK {
			return answer{nil, at, e}
		}
		t.At = at
		l = append(l, t)
		at += len(t.Text)
	}
}

// agrees checks that Read returns what the reference returns.
func agrees(t *testing.T, text string) {
	t.Helper()
	if a, want := read(text), reference(text); !a.equals(want) {
		t.Errorf("Read(%.99q) is %v, not %v", text, a, want)
	}
}

// reads checks the texts of the tokens, and that each token has the kind that its first byte tells and lies where its
// offset tells.
func reads(t *testing.T, text string, words ...string) {
	t.Helper()
	a := read(text)
	if a.e != api.OK || a.at != 0 || !slices.Equal(textsOf(a.l), words) {
		t.Errorf("Read(%.99q) is %v, not %q", text, a, words)
		return
	}
	for _, k := range a.l {
		if k.Kind != kindOf(k.Text) || !strings.HasPrefix(text[k.At:], k.Text) {
			t.Errorf("Read(%.99q) contains %v", text, k)
		}
	}
}

// fails checks the error, and that it comes with this offset and no tokens.
func fails(t *testing.T, text string, at int, e api.Errno) {
	t.Helper()
	if a := read(text); !a.equals(answer{nil, at, e}) {
		t.Errorf("Read(%.99q) is %v, not error %d at %d", text, a, e, at)
	}
}

// writes checks what Write returns.
func writes(t *testing.T, l []api.Token, want string, wantError api.Errno) {
	t.Helper()
	if text, e := token.Write(l); text != want || e != wantError {
		t.Errorf("Write(%v) is %q with error %d, not %q with error %d", l, text, e, want, wantError)
	}
}

// kindOf returns the kind of a token with this text.
func kindOf(text string) int {
	switch b := text[0]; {
	case 'a' <= b && b <= 'z':
		return api.ToName
	case '0' <= b && b <= '9':
		return api.ToNumber
	}
	return api.ToSign
}

// tokensOf returns tokens with these texts at the offset 0.
func tokensOf(texts ...string) []api.Token {
	var l []api.Token
	for _, s := range texts {
		l = append(l, api.Token{Kind: kindOf(s), Text: s})
	}
	return l
}

func textsOf(l []api.Token) []string {
	var texts []string
	for _, k := range l {
		texts = append(texts, k.Text)
	}
	return texts
}

// randomWord returns a token, half of the time one that is written differently each time.
func randomWord(random *rand.Rand) string {
	switch random.Intn(6) {
	case 0:
		return reservedNames[random.Intn(len(reservedNames))]
	case 1:
		return token.Digits(uint64(random.Uint32()) >> random.Intn(33))
	case 2:
		return strings.Repeat("0", random.Intn(5)) + token.Digits(uint64(random.Intn(100000)))
	case 3:
		return string(rune('a'+random.Intn(26))) + from(random, "abcxyz0189_", random.Intn(24))
	}
	return signs[random.Intn(len(signs))]
}

// from returns n random bytes of a string.
func from(random *rand.Rand, bytes string, n int) string {
	l := make([]byte, n)
	for i := range l {
		l[i] = bytes[random.Intn(len(bytes))]
	}
	return string(l)
}
