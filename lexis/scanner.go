package lexis

import "seedbed/api"

// scanner visits the tokens of a source.
type scanner struct {
	source  string
	at      int
	stopped bool // there is no token at the position at, where one should begin
	signs   map[string]bool
	readers []func() (api.Token, int)
}

func newScanner(source string) *scanner {
	s := &scanner{source: source, signs: signs()}
	s.readers = []func() (api.Token, int){s.word, s.numeral, s.quote, s.sign}
	return s
}

// tokens visits the tokens from left to right, the end too; it stops where there is none.
func (s *scanner) tokens(yield func(api.Token) bool) {
	for s.skip(); s.at < len(s.source); s.skip() {
		t, size := s.token()
		if size == 0 {
			s.stopped = true
			return
		}
		t.At = s.at
		s.at += size
		if !yield(t) {
			return
		}
	}
	yield(api.Token{Kind: api.TEnd, At: len(s.source)})
}

// skip passes over blanks and comments.
func (s *scanner) skip() {
	for s.at < len(s.source) {
		switch rest := s.source[s.at:]; {
		case isBlank(rest[0]):
			s.at++
		case rest[0] == '#':
			s.at += run(rest, func(c byte) bool { return c != '\n' })
		default:
			return
		}
	}
}

// token is the token that begins here, and how many bytes it has: 0 if there is none.
func (s *scanner) token() (api.Token, int) {
	for _, read := range s.readers {
		if t, size := read(); size > 0 {
			return t, size
		}
	}
	return api.Token{}, 0
}

func (s *scanner) word() (api.Token, int) {
	rest := s.source[s.at:]
	if !isLetter(rest[0]) {
		return api.Token{}, 0
	}
	size := run(rest, isLetterOrDigit)
	text := rest[:size]
	switch {
	case IsWord(text):
		return api.Token{Kind: api.TWord, Text: text}, size
	case IsName(text):
		return api.Token{Kind: api.TName, Text: text}, size
	}
	return api.Token{}, 0
}

func (s *scanner) numeral() (api.Token, int) {
	rest := s.source[s.at:]
	size := run(rest, isDigit)
	if !isNumeral(rest[:size]) {
		return api.Token{}, 0
	}
	return api.Token{Kind: api.TInt, Text: rest[:size]}, size
}

func (s *scanner) quote() (api.Token, int) {
	rest := s.source[s.at:]
	if rest[0] != '"' {
		return api.Token{}, 0
	}
	var text []byte
	for i := 1; i < len(rest); i++ {
		c := rest[i]
		if c == '"' {
			if len(text) > api.MaxText {
				return api.Token{}, 0
			}
			return api.Token{Kind: api.TText, Text: string(text)}, i + 1
		}
		if c == '\\' {
			i++
			if i == len(rest) || !needsEscape(rest[i]) {
				return api.Token{}, 0
			}
			c = rest[i]
		}
		if !isPrinted(c) {
			return api.Token{}, 0
		}
		text = append(text, c)
	}
	return api.Token{}, 0
}

func (s *scanner) sign() (api.Token, int) {
	rest := s.source[s.at:]
	for size := min(longestSign, len(rest)); size > 0; size-- {
		if s.signs[rest[:size]] {
			return api.Token{Kind: api.TSign, Text: rest[:size]}, size
		}
	}
	return api.Token{}, 0
}
