package token_test

import (
	"math/rand"
	"slices"
	"strings"
	"testing"

	"junto/api"
)

// P8.1

func TestReadExample(t *testing.T) {
	want := []api.Token{
		{Kind: api.ToName, Text: "let", At: 0}, {Kind: api.ToName, Text: "a", At: 4}, {Kind: api.ToSign, Text: "=", At: 5},
		{Kind: api.ToName, Text: "b", At: 6}, {Kind: api.ToSign, Text: "==", At: 7}, {Kind: api.ToNumber, Text: "3", At: 9},
		{Kind: api.ToSign, Text: ";", At: 10},
	}
	if a := read("let a=b==3;// x"); !a.equals(answer{want, 0, api.OK}) {
		t.Error(a)
	}
}

func TestReadNothing(t *testing.T) {
	for _, text := range []string{"", " ", "\t", "\r", "\n", " \t\r\n\n\r\t ", "//", "///", "// a", "//\n", "//\n//", "//\r a", " // /* ä \x00\xff", "//a\n\n //b\r\n"} {
		reads(t, text)
	}
}

func TestReadOne(t *testing.T) {
	words := slices.Concat(signs, reservedNames, []string{
		"a", "z", "a0", "a9", "a_", "az", "a__", "in_", "in0", "ins", "lets", "i", "wor", "words", "word8", "x_1_y", strings.Repeat("z", 24),
		"q" + strings.Repeat("_", 23), "q" + strings.Repeat("7", 23),
		"0", "1", "9", "00", "01", "0000000000", "0000000001", "1234567890", "4294967295", "0429496729", "999999999", "0999999999",
	})
	for _, s := range words {
		reads(t, s, s)
		for _, blank := range []string{" ", "\t", "\r", "\n", "//\n", "// a / 0\n", " //\r\n\t//\n\r"} {
			reads(t, blank+s, s)
			reads(t, s+blank, s)
			reads(t, blank+s+blank+s+blank, s, s)
		}
		reads(t, s+"//", s)
		reads(t, s+"//"+s, s)
		reads(t, s+"//\r"+s, s)
		reads(t, s+"//"+s+"\n"+s, s, s)
	}
}

func TestReadPairs(t *testing.T) {
	words := slices.Concat(signs, []string{"a", "in", "b_", "c3", "0", "12", "4294967295", "/", "//", "_", "A", ">", "\n"})
	for _, a := range words {
		for _, b := range words {
			agrees(t, a+b)
			for _, c := range words {
				agrees(t, a+b+c)
			}
		}
	}
}

func TestReadLongest(t *testing.T) {
	reads(t, "===", "==", "=")
	reads(t, "====", "==", "==")
	reads(t, "= ==", "=", "==")
	reads(t, "= =", "=", "=")
	reads(t, "=//\n=", "=", "=")
	reads(t, "a==b=c", "a", "==", "b", "=", "c")
	reads(t, "!=<=", "!", "=", "<", "=")
	reads(t, "==<", "==", "<")
	reads(t, "let1", "let1")
	reads(t, "letin", "letin")
	reads(t, "in_from", "in_from")
	reads(t, "a1b2", "a1b2")
	reads(t, "1a", "1", "a")
	reads(t, "12in34", "12", "in34")
	reads(t, "0x10", "0", "x10")
	reads(t, "4294967295a_", "4294967295", "a_")
	reads(t, "00042", "00042")
	reads(t, "-1", "-", "1")
	reads(t, "8[4]", "8", "[", "4", "]")
	reads(t, "a//b\nc//d", "a", "c")
	fails(t, "1_", 1, api.ErrForm)
	fails(t, "1A", 1, api.ErrForm)
	fails(t, "aB", 1, api.ErrForm)
	fails(t, "1.5", 1, api.ErrForm)
}

// Every byte is tried alone, between tokens and in comments.
func TestReadBytes(t *testing.T) {
	for i := range 256 {
		b := string([]byte{byte(i)})
		for _, text := range []string{b, "a" + b, "a " + b, "1" + b + "2", "=" + b + "=", b + "x", b + b, b + "/", "//" + b + "a", "a //" + b + "\nb"} {
			agrees(t, text)
		}
		if i != 10 {
			reads(t, "a//"+b+"b\nc", "a", "c")
		}
	}
	for _, b := range []string{"\x00", "\v", "\f", "\x7f", "\x85", "\xa0", "\u00a0", "\u2028", "\xff", "ä", "λ", "_", "A", "Z", "`", ">", "/", "%", "'", "\"", "#", "$", ".", "?", "@", "\\", "~"} {
		fails(t, b, 0, api.ErrForm)
		fails(t, "a = "+b, 4, api.ErrForm)
		fails(t, "// "+b+"\n "+b+" b", 5+len(b), api.ErrForm)
	}
}

func TestReadSlash(t *testing.T) {
	fails(t, "/", 0, api.ErrForm)
	fails(t, "a/b", 1, api.ErrForm)
	fails(t, "a / / b", 2, api.ErrForm)
	fails(t, "a /\n/ b", 2, api.ErrForm)
	fails(t, "a /* b */", 2, api.ErrForm)
	fails(t, "//a\n/b", 4, api.ErrForm)
	fails(t, "a//b\n/", 5, api.ErrForm)
}

// The first invalid token counts, whatever follows.
func TestReadErrors(t *testing.T) {
	invalid := []struct {
		text string
		e    api.Errno
	}{
		{"A", api.ErrForm}, {"/", api.ErrForm}, {"_a", api.ErrForm}, {"\xff", api.ErrForm},
		{strings.Repeat("a", 25), api.ErrLimit}, {"in" + strings.Repeat("_", 23), api.ErrLimit}, {"x" + strings.Repeat("1", 1000), api.ErrLimit},
		{"4294967296", api.ErrLimit}, {"9999999999", api.ErrLimit}, {"00000000000", api.ErrLimit}, {"00000000001", api.ErrLimit},
		{"04294967295", api.ErrLimit}, {"12345678901", api.ErrLimit}, {"18446744073709551617", api.ErrLimit}, {strings.Repeat("0", 1000), api.ErrLimit},
	}
	for _, x := range invalid {
		fails(t, x.text, 0, x.e)
		fails(t, " "+x.text+" = 3;", 1, x.e)
		fails(t, "//\n"+x.text, 3, x.e)
		fails(t, "let a = "+x.text, 8, x.e)
		for _, y := range invalid {
			fails(t, "let a = "+x.text+" "+y.text, 8, x.e)
			fails(t, "+"+x.text+";"+y.text+"\n", 1, x.e)
		}
		reads(t, "let a //"+x.text, "let", "a")
	}
	fails(t, "4294967296a", 0, api.ErrLimit)
	fails(t, "12345678901_", 0, api.ErrLimit)
	fails(t, strings.Repeat("a", 25)+"A", 0, api.ErrLimit)
	fails(t, "3"+strings.Repeat("a", 25), 1, api.ErrLimit)
}

func TestReadLimit(t *testing.T) {
	for _, part := range []string{" ", ";", "=", "a ", "1+", "//", "ab, ", "=;//\n"} {
		text := strings.Repeat(part, 20000/len(part))
		if len(text) != 20000 || read(text).e != api.OK {
			t.Errorf("%q: %v", part, read(text).e)
		}
		agrees(t, text)
		fails(t, text+" ", 0, api.ErrLimit)
		fails(t, text+"/", 0, api.ErrLimit)
		fails(t, "A"+text, 0, api.ErrLimit)
		fails(t, text+text, 0, api.ErrLimit)
		fails(t, text[:19000]+strings.Repeat("\n", 999)+"_", 19999, api.ErrForm)
	}
	if a := read(strings.Repeat("=", 20000)); len(a.l) != 10000 {
		t.Error(len(a.l))
	}
	if a := read(strings.Repeat("(", 20000)); len(a.l) != 20000 {
		t.Error(len(a.l))
	}
	fails(t, strings.Repeat("a", 20000), 0, api.ErrLimit)
	fails(t, strings.Repeat(" ", 19999)+"/", 19999, api.ErrForm)
	fails(t, strings.Repeat("A", 20001), 0, api.ErrLimit)
	fails(t, strings.Repeat(" ", 1<<22), 0, api.ErrLimit)
}

func TestReadRandom(t *testing.T) {
	random := rand.New(rand.NewSource(81))
	parts := slices.Concat(signs, []string{" ", "\n", "\t\r", "//", "// in\n", "let", "x", "a_1", "7", "0123456789", "99999", "/", "A", "\xc3", "abcdefghijklm"})
	for range 30000 {
		var text strings.Builder
		for range random.Intn(12) {
			text.WriteString(parts[random.Intn(len(parts))])
		}
		agrees(t, text.String())
	}
	for range 30000 {
		agrees(t, from(random, "ab0189_=/<;+ \n\r", random.Intn(40)))
	}
}
