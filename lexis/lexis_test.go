package lexis

import (
	"reflect"
	"slices"
	"strings"
	"testing"

	"seedbed/api"
)

const chapterWords = "after await bool break buffer cancel catch chan close continue drop each else emit false finally flow fn from hold if int let lock new now old produce receive return scope select send shield sleep spawn supervised task text throw true try use while within yield"

const chapterSigns = "( ) { } , ; = == != < <= > >= + - * / % ! && ||"

// wantTokens checks that a source has the tokens list, and the end behind them.
func wantTokens(t *testing.T, source string, list ...api.Token) {
	t.Helper()
	list = append(list, api.Token{Kind: api.TEnd, At: len(source)})
	got, at, err := Tokens(source)
	if !reflect.DeepEqual(got, list) || at != 0 || err != api.OK {
		t.Errorf("Tokens(%q) = %v, %d, %d, want %v", source, got, at, err, list)
	}
}

func wantNoTokens(t *testing.T, source string, at int, err api.Errno) {
	t.Helper()
	got, gotAt, gotErr := Tokens(source)
	if len(got) != 0 || gotAt != at || gotErr != err {
		t.Errorf("Tokens(%q) = %v, %d, %d, want error %d at %d", source, got, gotAt, gotErr, err, at)
	}
}

// TestP11Kinds checks the kinds, texts and positions of tokens.
func TestP11Kinds(t *testing.T) {
	wantTokens(t, "")
	wantTokens(t, "let x=1;# one", api.Token{Kind: api.TWord, Text: "let", At: 0}, api.Token{Kind: api.TName, Text: "x", At: 4},
		api.Token{Kind: api.TSign, Text: "=", At: 5}, api.Token{Kind: api.TInt, Text: "1", At: 6}, api.Token{Kind: api.TSign, Text: ";", At: 7})
	wantTokens(t, `  "a#\"\\" "" `, api.Token{Kind: api.TText, Text: `a#"\`, At: 2}, api.Token{Kind: api.TText, Text: "", At: 11})
	wantTokens(t, `" ~"`, api.Token{Kind: api.TText, Text: " ~", At: 0})
	for _, w := range strings.Fields(chapterWords) {
		wantTokens(t, w, api.Token{Kind: api.TWord, Text: w})
	}
	for _, s := range strings.Fields(chapterSigns) {
		wantTokens(t, s, api.Token{Kind: api.TSign, Text: s})
	}
}

// TestP11Longest checks that each token is the longest one.
func TestP11Longest(t *testing.T) {
	name := func(text string, at int) api.Token { return api.Token{Kind: api.TName, Text: text, At: at} }
	sign := func(text string, at int) api.Token { return api.Token{Kind: api.TSign, Text: text, At: at} }
	number := func(text string, at int) api.Token { return api.Token{Kind: api.TInt, Text: text, At: at} }
	wantTokens(t, "a<=b", name("a", 0), sign("<=", 1), name("b", 3))
	wantTokens(t, "a<b", name("a", 0), sign("<", 1), name("b", 2))
	wantTokens(t, "===", sign("==", 0), sign("=", 2))
	wantTokens(t, "!!=", sign("!", 0), sign("!=", 1))
	wantTokens(t, "&&||", sign("&&", 0), sign("||", 2))
	wantTokens(t, "lets", name("lets", 0))
	wantTokens(t, "if1", name("if1", 0))
	wantTokens(t, "12ab3", number("12", 0), name("ab3", 2))
	wantTokens(t, "0x", number("0", 0), name("x", 1))
	wantTokens(t, `a"b"c`, name("a", 0), api.Token{Kind: api.TText, Text: "b", At: 1}, name("c", 4))
}

// TestP11Blanks checks what can stand between tokens.
func TestP11Blanks(t *testing.T) {
	a := api.Token{Kind: api.TName, Text: "a"}
	b := api.Token{Kind: api.TName, Text: "b"}
	for _, gap := range []string{" ", "\t", "\n", "\r", "\r\n\t  ", "#\n", "# \" \x00\xff $\r b\n", "#one\n#two\n"} {
		b.At = 1 + len(gap)
		wantTokens(t, "a"+gap+"b", a, b)
	}
	wantTokens(t, "#")
	wantTokens(t, "# a\r b")
	wantTokens(t, "a# b", a)
}

// TestP11Errors checks the position of the byte where no token begins.
func TestP11Errors(t *testing.T) {
	for source, at := range map[string]int{
		"01": 0, "00": 0, "x 007": 2, "$": 0, "x $": 2, "a & b": 2, "a |b": 2, "&|": 0, "a.b": 1, "_": 0, "A": 0, "aB": 1, "[": 0, ":": 0, "'": 0,
		"\"a": 0, "x \"": 2, "\"a\\": 0, "\"\\n\"": 0, "\"a\tb\"": 0, "\"\n\"": 0, "\"\x7f\"": 0, "\"\x1f\"": 0, "\"\xc3\xa4\"": 0, "\"\\\"": 0,
		"a \x00": 2, "\x0b": 0, "\x0c": 0, "\x7f": 0, "\xff": 0, "\xc2\xa0": 0, "\\": 0, "a # x\n$ 01": 6,
	} {
		wantNoTokens(t, source, at, api.ErrSyntax)
	}
}

// TestP11Limits checks MaxSource, MaxName, MaxText and MaxInt, at the limit and one beyond.
func TestP11Limits(t *testing.T) {
	wantTokens(t, strings.Repeat(" ", api.MaxSource))
	wantTokens(t, strings.Repeat(" ", api.MaxSource-1)+"x", api.Token{Kind: api.TName, Text: "x", At: api.MaxSource - 1})
	wantNoTokens(t, strings.Repeat(" ", api.MaxSource+1), 0, api.ErrFull)
	wantNoTokens(t, "  $"+strings.Repeat(" ", api.MaxSource), 0, api.ErrFull)

	name := strings.Repeat("z", api.MaxName)
	wantTokens(t, " "+name, api.Token{Kind: api.TName, Text: name, At: 1})
	wantNoTokens(t, " "+name+"9", 1, api.ErrSyntax)

	text := strings.Repeat("t", api.MaxText)
	wantTokens(t, ` "`+text+`"`, api.Token{Kind: api.TText, Text: text, At: 1})
	wantNoTokens(t, ` "`+text+`t"`, 1, api.ErrSyntax)
	escaped := strings.Repeat(`\\`, api.MaxText)
	wantTokens(t, `"`+escaped+`"`, api.Token{Kind: api.TText, Text: strings.Repeat(`\`, api.MaxText)})
	wantNoTokens(t, `"`+escaped+`\""`, 0, api.ErrSyntax)

	wantTokens(t, "1000000000000", api.Token{Kind: api.TInt, Text: "1000000000000"})
	wantTokens(t, "0", api.Token{Kind: api.TInt, Text: "0"})
	for _, big := range []string{"1000000000001", "9999999999999", "18446744073709551617", strings.Repeat("9", 3000)} {
		wantNoTokens(t, "a "+big, 2, api.ErrSyntax)
	}
}

// TestP12Join checks the texts that Join writes.
func TestP12Join(t *testing.T) {
	end := api.Token{Kind: api.TEnd}
	for _, c := range []struct {
		want string
		list []api.Token
	}{
		{"", nil},
		{"", []api.Token{{Kind: api.TEnd, At: -7}}},
		{"let x = 1 ;", []api.Token{{Kind: api.TWord, Text: "let", At: 99}, {Kind: api.TName, Text: "x", At: -1}, {Kind: api.TSign, Text: "="}, {Kind: api.TInt, Text: "1"}, {Kind: api.TSign, Text: ";"}, end}},
		{`"" "a\"\\"`, []api.Token{{Kind: api.TText}, {Kind: api.TText, Text: `a"\`}}},
		{"0 1000000000000 &&", []api.Token{{Kind: api.TInt, Text: "0"}, {Kind: api.TInt, Text: "1000000000000"}, {Kind: api.TSign, Text: "&&"}}},
	} {
		if got, err := Join(c.list); got != c.want || err != api.OK {
			t.Errorf("Join(%v) = %q, %d, want %q", c.list, got, err, c.want)
		}
	}
}

// TestP12JoinErrors checks that Join takes no token that Tokens cannot return.
func TestP12JoinErrors(t *testing.T) {
	name := api.Token{Kind: api.TName, Text: "a"}
	end := api.Token{Kind: api.TEnd}
	for _, list := range [][]api.Token{
		{{}}, {{Kind: -1, Text: "a"}}, {{Kind: 7, Text: "a"}}, {{Kind: api.TName}}, {{Kind: api.TName, Text: "let"}}, {{Kind: api.TName, Text: "1a"}},
		{{Kind: api.TName, Text: "a b"}}, {{Kind: api.TName, Text: "abcdefghijklm"}}, {{Kind: api.TName, Text: "A"}}, {{Kind: api.TName, Text: strings.Repeat("a", 1000000)}},
		{{Kind: api.TInt}}, {{Kind: api.TInt, Text: "01"}}, {{Kind: api.TInt, Text: "-1"}}, {{Kind: api.TInt, Text: "+1"}}, {{Kind: api.TInt, Text: "1_0"}}, {{Kind: api.TInt, Text: "1000000000001"}},
		{{Kind: api.TText, Text: "\n"}}, {{Kind: api.TText, Text: "\x7f"}}, {{Kind: api.TText, Text: strings.Repeat("a", api.MaxText+1)}},
		{{Kind: api.TSign}}, {{Kind: api.TSign, Text: "&"}}, {{Kind: api.TSign, Text: "=!"}}, {{Kind: api.TSign, Text: "a"}},
		{{Kind: api.TWord}}, {{Kind: api.TWord, Text: "lets"}}, {{Kind: api.TWord, Text: "le"}}, {{Kind: api.TWord, Text: "if int"}}, {{Kind: api.TWord, Text: " if"}},
		{{Kind: api.TEnd, Text: "x"}}, {end, end}, {end, name}, {name, end, name}, {name, {}},
	} {
		if got, err := Join(list); got != "" || err != api.ErrArg {
			t.Errorf("Join(%v) = %q, %d", list, got, err)
		}
	}
}

// TestP12JoinLimit checks MaxSource, at the limit and one beyond.
func TestP12JoinLimit(t *testing.T) {
	list := slices.Repeat([]api.Token{{Kind: api.TName, Text: "a"}}, api.MaxSource/2)
	list[0].Text = "ab"
	got, err := Join(list)
	if len(got) != api.MaxSource || err != api.OK {
		t.Errorf("Join of %d bytes: %d", len(got), err)
	}
	if got, err := Join(append(slices.Clone(list), api.Token{Kind: api.TEnd})); len(got) != api.MaxSource || err != api.OK {
		t.Errorf("Join of %d bytes with the end: %d", len(got), err)
	}
	list[1].Text = "ab"
	if got, err := Join(list); got != "" || err != api.ErrArg {
		t.Errorf("Join beyond the limit: %d bytes, %d", len(got), err)
	}
}

// TestP13Names checks IsName, IsWord and Words.
func TestP13Names(t *testing.T) {
	for _, s := range []string{"a", "z9", "x1y2", "abcdefghijkl", "lets", "in", "supervise", "fn0"} {
		if !IsName(s) || IsWord(s) {
			t.Errorf("IsName(%q) = %v, IsWord = %v", s, IsName(s), IsWord(s))
		}
	}
	for _, s := range []string{"", "1", "1x", "abcdefghijklm", "A", "aB", "a_b", "a b", " a", "a ", "a\n", "ä", "if int", " if ", "  "} {
		if IsName(s) || IsWord(s) {
			t.Errorf("IsName(%q) = %v, IsWord = %v", s, IsName(s), IsWord(s))
		}
	}
	want := strings.Fields(chapterWords)
	for _, w := range want {
		if IsName(w) || !IsWord(w) {
			t.Errorf("IsName(%q) = %v, IsWord = %v", w, IsName(w), IsWord(w))
		}
	}
	got := Words()
	if !slices.Equal(got, want) || !slices.IsSorted(got) {
		t.Errorf("Words() = %v", got)
	}
	got[0] = "changed"
	if !slices.Equal(Words(), want) || !IsWord(want[0]) {
		t.Error("Words() shares memory")
	}
}

// TestP13Quote checks Quote.
func TestP13Quote(t *testing.T) {
	for text, want := range map[string]string{"": `""`, `a\b`: `"a\\b"`, `"`: `"\""`, " ~": `" ~"`, "#": `"#"`} {
		if got, err := Quote(text); got != want || err != api.OK {
			t.Errorf("Quote(%q) = %q, %d", text, got, err)
		}
	}
	if got, err := Quote(strings.Repeat(`"`, api.MaxText)); len(got) != 2+2*api.MaxText || err != api.OK {
		t.Errorf("Quote at the limit = %q, %d", got, err)
	}
	for _, text := range []string{"\n", "\x1f", "\x7f", "\x80", "a\x00", "ä", strings.Repeat("a", api.MaxText+1)} {
		if got, err := Quote(text); got != "" || err != api.ErrArg {
			t.Errorf("Quote(%q) = %q, %d", text, got, err)
		}
	}
}

// TestP13Place checks Place.
func TestP13Place(t *testing.T) {
	for _, c := range []struct {
		source           string
		at, line, column int
	}{
		{"", 0, 1, 1}, {"a\nbc", 0, 1, 1}, {"a\nbc", 1, 1, 2}, {"a\nbc", 2, 2, 1}, {"a\nbc", 3, 2, 2}, {"a\nbc", 4, 2, 3}, {"\n\n", 1, 2, 1}, {"\n\n", 2, 3, 1}, {"\r\t$", 2, 1, 3},
		{strings.Repeat("\n", api.MaxSource), api.MaxSource, api.MaxSource + 1, 1},
	} {
		if line, column, err := Place(c.source, c.at); line != c.line || column != c.column || err != api.OK {
			t.Errorf("Place(%q, %d) = %d, %d, %d", c.source, c.at, line, column, err)
		}
	}
	for _, c := range []struct {
		source string
		at     int
	}{{"", -1}, {"", 1}, {"abc", 4}, {"abc", -1 << 63}, {"abc", 1<<63 - 1}, {strings.Repeat("a", api.MaxSource+1), 0}} {
		if line, column, err := Place(c.source, c.at); line != 0 || column != 0 || err != api.ErrArg {
			t.Errorf("Place(%d bytes, %d) = %d, %d, %d", len(c.source), c.at, line, column, err)
		}
	}
}
