package code

import "argus/api"

// instruction is one with its fields; none of them is a phi.
type instruction struct{ *api.Ins }

func (x instruction) which() *uint8 { return &x.Op }

func (x instruction) to(c *coder) { c.index(&x.To) }

func (x instruction) a(c *coder) { c.index(&x.A) }

func (x instruction) b(c *coder) { c.index(&x.B) }

func (x instruction) n(c *coder) { c.small(&x.N) }

func (x instruction) word(c *coder) { c.word(&x.N) }

func (x instruction) args(c *coder) { list(c, 1, &x.Args, c.index) }

// fieldsOfInstructions has the fields of each Op in their order.
func fieldsOfInstructions() map[uint8][3]func(instruction, *coder) {
	type fields = [3]func(instruction, *coder)
	var (
		one = fields{instruction.to, instruction.a}
		two = fields{instruction.to, instruction.a, instruction.b}
	)
	return map[uint8]fields{
		api.InsWord:  {instruction.to, instruction.word},
		api.InsMove:  one,
		api.InsLt:    two,
		api.InsLe:    two,
		api.InsEq:    two,
		api.InsAnd:   two,
		api.InsOr:    two,
		api.InsNot:   one,
		api.InsNew:   {instruction.to, instruction.n},
		api.InsMake:  {instruction.to, instruction.n, instruction.args},
		api.InsGet:   {instruction.to, instruction.a, instruction.n},
		api.InsSet:   {instruction.a, instruction.b, instruction.n},
		api.InsTag:   one,
		api.InsSize:  one,
		api.InsPut:   {instruction.a},
		api.InsClose: {instruction.a},
		api.InsLoad:  {instruction.to, instruction.n},
		api.InsSpill: {instruction.a, instruction.n},
		api.TryAdd:   two,
		api.TrySub:   two,
		api.TryMul:   two,
		api.TryDiv:   two,
		api.TryMod:   two,
		api.TryAddh:  {instruction.a, instruction.b},
		api.TryRemh:  one,
		api.TryFetch: two,
		api.TryStore: {instruction.a, instruction.b, instruction.args},
	}
}

// end is one with its fields.
type end struct{ *api.End }

func (x end) which() *uint8 { return &x.Kind }

func (x end) a(c *coder) { c.index(&x.A) }

func (x end) b(c *coder) { c.index(&x.B) }

func (x end) to(c *coder) { c.index(&x.To) }

func (x end) orElse(c *coder) { c.index(&x.Else) }

func (x end) name(c *coder) { c.name(&x.Name) }

func (x end) ins(c *coder) { c.part(instruction{&x.Ins}) }

func (x end) args(c *coder) { list(c, 1, &x.Args, c.index) }

func (x end) routine(c *coder) {
	c.calls = append(c.calls, api.Reloc{At: c.at(), Name: x.Name})
	c.routine(&x.Name)
}

func (x end) handlers(c *coder) {
	list(c, 1, &x.Whens, func(w *api.When) {
		c.name(&w.Name)
		c.index(&w.To)
	})
	c.index(&x.Others)
}

// alone passes the handlers of an end that has none.
func (x end) alone(c *coder) { c.none(&x.Others) }

// fieldsOfEnds has the fields of each Kind in their order.
func fieldsOfEnds() map[uint8][5]func(end, *coder) {
	return map[uint8][5]func(end, *coder){
		api.EndGoto:   {end.to, end.alone},
		api.EndIf:     {end.a, end.to, end.orElse, end.alone},
		api.EndReturn: {end.a, end.alone},
		api.EndSignal: {end.name, end.alone},
		api.EndTry:    {end.ins, end.to, end.handlers},
		api.EndCall:   {end.routine, end.args, end.a, end.to, end.handlers},
		api.EndOpen:   {end.routine, end.args, end.a, end.to, end.alone},
		api.EndNext:   {end.a, end.b, end.to, end.orElse, end.handlers},
		api.EndYield:  {end.a, end.to, end.alone},
	}
}
