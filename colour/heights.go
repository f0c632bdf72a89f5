package colour

import "seedbed/api"

func heights(funcs []api.Func) []int {
	var out []int
	for _, f := range funcs {
		out = append(out, height(f.Body))
	}
	return out
}

// height returns how many uses and holds of a block are nested in each other, at the most.
func height(block []api.Stmt) int {
	most := 0
	for _, s := range block {
		h := max(height(s.Body), height(s.Other), height(s.Last))
		for _, k := range s.Cases {
			h = max(h, height(k.Body))
		}
		if s.Op == api.SUse || s.Op == api.SHold {
			h++
		}
		most = max(most, h)
	}
	return most
}
