package lexis

import (
	"math/rand/v2"
	"regexp"
	"slices"
	"strconv"
	"strings"
	"testing"

	"seedbed/api"
)

var (
	gapForm   = regexp.MustCompile(`^(?:[\t\n\r ]|#[^\n]*)*`)
	wordForm  = regexp.MustCompile(`^[a-z][a-z0-9]*`)
	intForm   = regexp.MustCompile(`^[0-9]+`)
	quoteForm = regexp.MustCompile(`^"(?:[ !#-\[\]-~]|\\["\\])*"`)
	signForm  = regexp.MustCompile(`^(?:==|!=|<=|>=|&&|\|\||[(){},;=<>+\-*/%!])`)
)

// simpleTokens cuts a source by regular expressions; the number is the position of the error, or -1.
func simpleTokens(source string) ([]api.Token, int) {
	var list []api.Token
	at := 0
	for {
		at += len(gapForm.FindString(source[at:]))
		rest := source[at:]
		if rest == "" {
			return append(list, api.Token{Kind: api.TEnd, At: at}), -1
		}
		t, size := simpleToken(rest)
		if size == 0 {
			return nil, at
		}
		t.At = at
		list = append(list, t)
		at += size
	}
}

func simpleToken(rest string) (api.Token, int) {
	if w := wordForm.FindString(rest); w != "" {
		if slices.Contains(strings.Fields(chapterWords), w) {
			return api.Token{Kind: api.TWord, Text: w}, len(w)
		}
		if len(w) <= 12 {
			return api.Token{Kind: api.TName, Text: w}, len(w)
		}
	}
	if n := intForm.FindString(rest); n != "" && (n == "0" || n[0] != '0') {
		if v, err := strconv.ParseInt(n, 10, 64); err == nil && v <= 1e12 {
			return api.Token{Kind: api.TInt, Text: n}, len(n)
		}
	}
	if q := quoteForm.FindString(rest); q != "" {
		text := strings.NewReplacer(`\\`, `\`, `\"`, `"`).Replace(q[1 : len(q)-1])
		if len(text) <= 60 {
			return api.Token{Kind: api.TText, Text: text}, len(q)
		}
	}
	s := signForm.FindString(rest)
	return api.Token{Kind: api.TSign, Text: s}, len(s)
}

// randomSource makes sources of pieces that are near to tokens.
func randomSource(r *rand.Rand) string {
	pieces := []string{" ", " ", "\n", "\t", "\r", "#", "# c\n", "\"", "\\", "\"a\"", `"\""`, `"\\"`, "a", "let", "if", "x1", "0", "7", "42", "1000000000000", "=", "!", "<", ">", "&&", "||", "&", "|", "(", ")", "{", "}", ",", ";", "+", "-", "*", "/", "%", "abcdefghijk", "$", "\x00", "~", "Z"}
	likely := len(pieces)
	if r.IntN(3) > 0 { // without what is mostly wrong
		likely -= 4
	}
	var b strings.Builder
	for range r.IntN(12) {
		b.WriteString(pieces[r.IntN(likely)])
	}
	return b.String()
}

// TestP11Random compares Tokens with the simple cutter.
func TestP11Random(t *testing.T) {
	r := rand.New(rand.NewPCG(1, 1))
	right := 0
	for range 20000 {
		s := randomSource(r)
		want, wrong := simpleTokens(s)
		if wrong >= 0 {
			wantNoTokens(t, s, wrong, api.ErrSyntax)
			continue
		}
		right++
		wantTokens(t, s, want[:len(want)-1]...)
	}
	if right < 2000 {
		t.Errorf("only %d sources have tokens", right)
	}
}

func withoutPlaces(list []api.Token) []api.Token {
	list = slices.Clone(list)
	for i := range list {
		list[i].At = 0
	}
	return list
}

// TestP14Properties checks what the chapter says of joined and of longer sources.
func TestP14Properties(t *testing.T) {
	r := rand.New(rand.NewPCG(1, 4))
	for range 20000 {
		s := randomSource(r)
		list, _, err := Tokens(s)
		if err != api.OK {
			continue
		}
		joined, err := Join(list)
		again, _, err2 := Tokens(joined)
		if err != api.OK || err2 != api.OK || !slices.Equal(withoutPlaces(list), withoutPlaces(again)) {
			t.Errorf("Tokens(Join(Tokens(%q))) = %v, %d, %d", s, again, err, err2)
		}
		last := len(list) - 1
		more, _, err := Tokens(s + "# more \" $\n")
		if err != api.OK || len(more) != len(list) || !slices.Equal(list[:last], more[:last]) || more[last].At != list[last].At+len("# more \" $\n") {
			t.Errorf("Tokens(%q and a comment) = %v, %d", s, more, err)
		}
		for _, k := range list {
			if k.Kind != api.TText && !strings.HasPrefix(s[k.At:], k.Text) {
				t.Errorf("%q: %v does not stand there", s, k)
			}
		}
	}
}
