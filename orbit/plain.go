package orbit

import "strconv"

// plainText writes a pattern with the fewest runs.
func plainText(p pattern) string {
	corner := p.corner()
	out := appendNumber(nil, corner[0])
	out = appendNumber(out, corner[1])
	at := corner
	for s := range p.spans() {
		if down := s.first[1] - at[1]; down > 0 {
			out = appendRun(out, down, '$')
			at = cell{corner[0], s.first[1]}
		}
		out = appendRun(out, s.first[0]-at[0], 'b')
		out = appendRun(out, s.length, 'o')
		at = s.behind()
	}
	return string(append(out, '!'))
}

func appendNumber(out []byte, n int) []byte {
	return append(strconv.AppendInt(out, int64(n), 10), ' ')
}

// appendRun writes a count above maxRun as several runs, and none of 0.
func appendRun(out []byte, count int, letter byte) []byte {
	for count > 0 {
		part := min(count, maxRun)
		if part > 1 {
			out = strconv.AppendInt(out, int64(part), 10)
		}
		out = append(out, letter)
		count -= part
	}
	return out
}
