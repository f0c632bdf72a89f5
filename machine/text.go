package machine

import (
	"strconv"
	"strings"

	"seedbed/api"
	"seedbed/eval"
	"seedbed/words"
)

// write returns the text of frames; false: a value is not valid.
func write(frames []api.Frame) (string, bool) {
	var out strings.Builder
	for _, f := range frames {
		list := []string{strconv.Itoa(f.Fn), strconv.Itoa(f.Pc), strconv.Itoa(f.To)}
		for _, v := range f.Slots {
			word, err := eval.Show(v)
			if err != api.OK {
				return "", false
			}
			list = append(list, word)
		}
		out.WriteString(line(list...))
	}
	return out.String(), true
}

func line(list ...string) string { return strings.Join(list, words.Blank) + words.LineFeed }

// read returns frames that have a text, if any have it; false: none have it.
func read(text string) ([]api.Frame, bool) {
	var frames []api.Frame
	for text != "" {
		one, rest, _ := strings.Cut(text, words.LineFeed)
		f, ok := readFrame(cut(one))
		if !ok {
			return nil, false
		}
		frames = append(frames, f)
		text = rest
	}
	return frames, true
}

func readFrame(list []string) (api.Frame, bool) {
	if len(list) < 3 {
		return api.Frame{}, false
	}
	var n [3]int
	for i := range n {
		var err error
		if n[i], err = strconv.Atoi(list[i]); err != nil {
			return api.Frame{}, false
		}
	}
	f := api.Frame{Fn: n[0], Pc: n[1], To: n[2]}
	for _, word := range list[3:] {
		v, err := eval.Read(word)
		if err != api.OK {
			return api.Frame{}, false
		}
		f.Slots = append(f.Slots, v)
	}
	return f, true
}

// cut returns the words of a line.
func cut(line string) []string {
	c := words.Over(line)
	list := []string{c.Word()}
	for c.Skip(words.Blank) {
		list = append(list, c.Word())
	}
	return list
}
