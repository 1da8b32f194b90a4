package code

import "argus/api"

// tape writes or reads what stands in code. Flows are passed to both sorts in one way, so that what is read is what was written.
type tape interface {
	at() int               // how many bytes stand ahead
	flag(is *bool)         // a byte that is 0 or 1
	sort(sort *uint8)      // a byte that says what something is
	small(n *int)          // a byte
	index(n *int)          // two bytes, of a register or a block
	none(n *int)           // no byte, of what is -1 where it is not mentioned
	word(n *int)           // four bytes
	name(s *string)        // a byte with its length, and its bytes
	routine(s *string)     // two bytes, for its number
	many(width, n int) int // how many items follow
}

// torn is what a tape gives up with where bytes are no code.
type torn struct{}

// coder passes all of a flow to a tape, one behind the other.
type coder struct {
	tape
	ofInstructions map[uint8][3]func(instruction, *coder)
	ofEnds         map[uint8][5]func(end, *coder)
	calls          []api.Reloc
	blocks         []int // where they begin
}

func newCoder(t tape) *coder {
	return &coder{tape: t, ofInstructions: fieldsOfInstructions(), ofEnds: fieldsOfEnds()}
}

func (c *coder) flow(f *api.Flow) {
	c.flag(&f.Iter)
	c.small(&f.Args)
	c.sort(&f.Result)
	list(c, 2, &f.Regs, c.sort)
	list(c, 1, &f.Slots, c.sort)
	list(c, 1, &f.Signals, c.name)
	list(c, 2, &f.Blocks, c.block)
}

func (c *coder) block(b *api.Block) {
	c.blocks = append(c.blocks, c.at())
	list(c, 1, &b.Ins, func(x *api.Ins) { c.part(instruction{x}) })
	c.part(end{&b.End})
}

// list passes a list: how many items it has, in a number of bytes, and these. One that is read grows as long as there are bytes,
// whatever the number says.
func list[T any](t tape, width int, l *[]T, pass func(*T)) {
	for i := range t.many(width, len(*l)) {
		if i == len(*l) {
			var item T
			*l = append(*l, item)
		}
		pass(&(*l)[i])
	}
}

// part is an instruction or an end.
type part interface {
	which() *uint8 // its Op or its Kind
}

// part passes what says which instruction or end it is, and its fields.
func (c *coder) part(p part) {
	c.sort(p.which())
	switch x := p.(type) {
	case instruction:
		fields := c.ofInstructions[x.Op]
		passFields(c, x, fields[:])
	case end:
		fields := c.ofEnds[x.Kind]
		passFields(c, x, fields[:])
	}
}

// passFields passes the fields of a part: each one has some.
func passFields[P part](c *coder, x P, fields []func(P, *coder)) {
	if fields[0] == nil {
		panic(torn{})
	}
	for _, pass := range fields {
		if pass != nil {
			pass(x, c)
		}
	}
}
