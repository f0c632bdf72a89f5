package snapshot

import (
	"iter"
	"strings"

	"seedbed/api"
	"seedbed/words"
)

// The first line, and how those up to the picks begin.
const (
	version     = "seedbed 1"
	ruleWord    = "rule"
	serviceWord = "service"
	picksWord   = "picks"
)

// head writes the lines up to the picks.
func (w *writer) head(s api.Spec, picks []int) {
	w.words(version).end()
	w.words(ruleWord).numbers(s.Rule, s.Most, s.Within, s.Base, s.Cap).end()
	for _, service := range s.Services {
		w.words(serviceWord).numbers(service.Fn, service.When).values(service.Args...).end()
	}
	w.words(picksWord).numbers(picks...).end()
}

// lines visits the lines that are ended by a line feed, without that.
func lines(s string) iter.Seq[string] {
	return func(yield func(string) bool) {
		for {
			line, rest, ended := strings.Cut(s, words.LineFeed)
			if !ended || !yield(line) {
				return
			}
			s = rest
		}
	}
}

// Which line a reader wants; or it has read all, or a line is wrong.
const (
	atVersion = iota
	atRule
	atServices // or at the picks behind them
	atEnd
	atWrong
)

// reader reads the lines up to the picks.
type reader struct {
	at    int
	spec  api.Spec
	picks []int
}

func (r *reader) read(text string) {
	l := line{Cursor: words.Over(text)}
	switch {
	case r.at == atVersion && l.Skip(version):
		r.at = atRule
	case r.at == atRule && l.Skip(ruleWord):
		s := &r.spec
		for _, field := range []*int{&s.Rule, &s.Most, &s.Within, &s.Base, &s.Cap} {
			*field = next(&l, l.Number)
		}
		r.at = atServices
	case r.at == atServices && l.Skip(serviceWord):
		var s api.Service
		s.Fn = next(&l, l.Number)
		s.When = next(&l, l.Number)
		s.Args = rest(&l, l.Value)
		r.spec.Services = append(r.spec.Services, s)
	case r.at == atServices && l.Skip(picksWord):
		r.picks = rest(&l, l.Number)
		r.at = atEnd
	default:
		l.wrong = true
	}
	if l.wrong || !l.AtEnd() {
		r.at = atWrong
	}
}

// line is a line that is read word by word.
type line struct {
	words.Cursor
	wrong bool
}

// next reads a blank and a word.
func next[T any](l *line, read func() (T, bool)) T {
	blank := l.Skip(words.Blank)
	x, ok := read()
	l.wrong = l.wrong || !blank || !ok
	return x
}

// rest reads blanks and words up to the end of the line, or up to what is wrong.
func rest[T any](l *line, read func() (T, bool)) []T {
	var list []T
	for !l.wrong && !l.AtEnd() {
		list = append(list, next(l, read))
	}
	return list
}
