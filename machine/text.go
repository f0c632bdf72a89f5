package machine

import (
	"strconv"
	"strings"

	"seedbed/api"
	"seedbed/eval"
)

// What ends a line, and what stands between the words of one.
const (
	lineFeed = "\n"
	blank    = ' '
)

// write returns the text of frames; false: a value is not valid.
func write(frames []api.Frame) (string, bool) {
	var out strings.Builder
	for _, f := range frames {
		words := []string{strconv.Itoa(f.Fn), strconv.Itoa(f.Pc), strconv.Itoa(f.To)}
		for _, v := range f.Slots {
			word, err := eval.Show(v)
			if err != api.OK {
				return "", false
			}
			words = append(words, word)
		}
		out.WriteString(line(words...))
	}
	return out.String(), true
}

func line(words ...string) string { return strings.Join(words, string(blank)) + lineFeed }

// read returns frames that have a text, if any have it; false: none have it.
func read(text string) ([]api.Frame, bool) {
	var frames []api.Frame
	for text != "" {
		one, rest, _ := strings.Cut(text, lineFeed)
		f, ok := readFrame(cut(one))
		if !ok {
			return nil, false
		}
		frames = append(frames, f)
		text = rest
	}
	return frames, true
}

func readFrame(words []string) (api.Frame, bool) {
	if len(words) < 3 {
		return api.Frame{}, false
	}
	var n [3]int
	for i := range n {
		var err error
		if n[i], err = strconv.Atoi(words[i]); err != nil {
			return api.Frame{}, false
		}
	}
	f := api.Frame{Fn: n[0], Pc: n[1], To: n[2]}
	for _, word := range words[3:] {
		v, err := eval.Read(word)
		if err != api.OK {
			return api.Frame{}, false
		}
		f.Slots = append(f.Slots, v)
	}
	return f, true
}

// cut returns the words of a line. The blanks within a quote are parts of it.
func cut(line string) []string {
	var words []string
	begin, quoted := 0, false
	for i := 0; i < len(line); i++ {
		switch {
		case line[i] == '"':
			quoted = !quoted
		case line[i] == '\\':
			i++ // what is escaped does not end a quote
		case line[i] == blank && !quoted:
			words = append(words, line[begin:i])
			begin = i + 1
		}
	}
	return append(words, line[begin:])
}
