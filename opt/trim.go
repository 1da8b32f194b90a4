package opt

import "argus/api"

// Trim returns the flow without the blocks to which no way leads.
func Trim(f api.Flow) (api.Flow, api.Errno) {
	g, e := newGraph(f)
	if e != api.OK {
		return api.Flow{}, e
	}
	return g.trimmed(), api.OK
}

func (g *graph) trimmed() api.Flow {
	f := renewed(*g.Flow)
	now := make([]int, len(f.Blocks))
	n := 0
	for b := range f.Blocks {
		now[b] = n
		if g.counts(b) {
			n++
		} else {
			f.Blocks[b] = nowhere()
		}
	}
	g.pass(&f, upTo(len(f.Blocks)))
	var blocks []api.Block
	for b := range f.Blocks {
		if g.counts(b) {
			for to := range ways(&f.Blocks[b].End) {
				*to = now[*to]
			}
			blocks = append(blocks, f.Blocks[b])
		}
	}
	f.Blocks = blocks
	return f
}
