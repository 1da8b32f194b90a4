package tree

import (
	"strconv"
	"strings"

	"argus/api"
)

// Print returns the canonical text of modules.
func Print(l []api.Module) (string, api.Errno) {
	if len(l) > api.MaxModules {
		return "", api.ErrLimit
	}
	for _, m := range l {
		if e := Check(m); e != api.OK {
			return "", e
		}
	}
	p := &printer{}
	for i, m := range l {
		if i > 0 {
			p.WriteString("\n")
		}
		p.module(m)
	}
	return p.String(), api.OK
}

// PrintExpr returns the text of an expression, as it stands in a canonical text.
func PrintExpr(l []api.Node) (string, api.Errno) {
	if !isExprTree(l) {
		return "", api.ErrTree
	}
	p := &printer{nodes: l}
	return p.expr(len(l) - 1), api.OK
}

// printer writes lines; nodes are those of the body that is being written.
type printer struct {
	strings.Builder
	nodes []api.Node
	depth int
}

// line writes a line, indented as what stands at this depth.
func (p *printer) line(parts ...string) {
	for range p.depth {
		p.WriteString("  ")
	}
	for _, s := range parts {
		p.WriteString(s)
	}
	p.WriteString("\n")
}

func (p *printer) module(m api.Module) {
	f := m.Face
	name := f.Name
	if f.Param {
		name += "[t]"
	}
	if f.Kind != api.ModCluster {
		p.routine(m.Routines[0], name, where(f.Needs))
		return
	}
	var ops []string
	for _, op := range f.Ops {
		ops = append(ops, op.Name)
	}
	p.line("cluster ", name, " is ", strings.Join(ops, ", "), where(f.Needs))
	p.depth++
	p.line("rep = ", m.Rep)
	for _, r := range m.Routines {
		p.routine(r, r.Name, "")
	}
	p.depth--
	p.line("end")
}

// routine writes a routine, with what stands behind its head.
func (p *printer) routine(r api.Routine, name, behind string) {
	var params []string
	for i, param := range r.Params {
		params = append(params, param+": "+r.Sig.Args[i])
	}
	p.line(word(r.Sig), " ", name, "(", strings.Join(params, ", "), ")", results(r.Sig), behind, " is")
	p.nodes = r.Nodes
	p.block(len(r.Nodes) - 1)
	p.line("end")
}

// word returns the word with which a routine of a signature begins.
func word(s api.Sig) string {
	if s.Iter {
		return "iter"
	}
	return "proc"
}

// results returns what stands behind the arguments of a signature.
func results(s api.Sig) string {
	text := ""
	switch {
	case s.Iter:
		text = " yields " + s.Result
	case s.Result != "":
		text = " returns " + s.Result
	}
	if len(s.Signals) > 0 {
		text += " signals (" + strings.Join(s.Signals, ", ") + ")"
	}
	return text
}

func where(l []api.Need) string {
	var needs []string
	for _, x := range l {
		needs = append(needs, x.Op+": "+word(x.Sig)+"("+strings.Join(x.Sig.Args, ", ")+")"+results(x.Sig))
	}
	if len(needs) == 0 {
		return ""
	}
	return " where t has " + strings.Join(needs, ", ")
}

// block writes the statements of a StSeq.
func (p *printer) block(q int) {
	p.depth++
	kids := p.nodes[q].Kids
	for i, k := range kids {
		behind := ";"
		if i == len(kids)-1 {
			behind = ""
		}
		p.statement(p.nodes[k], behind)
	}
	p.depth--
}

// statement writes a statement, with what stands behind its last line.
func (p *printer) statement(n api.Node, behind string) {
	switch n.Kind {
	case api.StIf:
		p.branch("if ", n)
	case api.StWhile:
		p.line("while ", p.expr(n.Kids[0]), " do")
		p.block(n.Kids[1])
	case api.StFor:
		p.line("for ", n.Name, ": ", n.Type, " in ", p.expr(n.Kids[0]), " do")
		p.block(n.Kids[1])
	case api.StExcept:
		p.except(n)
	case api.StCase:
		p.choice(n)
	default:
		p.line(p.simple(n), behind)
		return
	}
	p.line("end", behind)
}

// simple returns the text of a statement that has a line of its own.
func (p *printer) simple(n api.Node) string {
	switch n.Kind {
	case api.StVar:
		return "var " + n.Name + ": " + n.Type + " := " + p.expr(n.Kids[0])
	case api.StSet:
		return n.Name + " := " + p.expr(n.Kids[0])
	case api.StStore:
		return p.operand(n.Kids[0]) + "[" + p.expr(n.Kids[1]) + "] := " + p.expr(n.Kids[2])
	case api.StField:
		return p.operand(n.Kids[0]) + "." + n.Name + " := " + p.expr(n.Kids[1])
	case api.StDo:
		return p.expr(n.Kids[0])
	case api.StYield:
		return "yield " + p.expr(n.Kids[0])
	case api.StPut:
		return "put " + p.expr(n.Kids[0])
	case api.StSignal:
		return "signal " + n.Name
	case api.StBreak:
		return "break"
	}
	if len(n.Kids) == 0 {
		return "return"
	}
	return "return " + p.expr(n.Kids[0])
}

// branch writes a StIf up to its end.
func (p *printer) branch(first string, n api.Node) {
	p.line(first, p.expr(n.Kids[0]), " then")
	p.block(n.Kids[1])
	if len(n.Kids) == 2 {
		return
	}
	other := p.nodes[n.Kids[2]].Kids
	if len(other) == 1 && p.nodes[other[0]].Kind == api.StIf {
		p.branch("elseif ", p.nodes[other[0]])
		return
	}
	p.line("else")
	p.block(n.Kids[2])
}

func (p *printer) except(n api.Node) {
	p.line("begin")
	p.block(n.Kids[0])
	p.line("except")
	for _, k := range n.Kids[1:] {
		when := p.nodes[k]
		name := when.Name
		if name == "" {
			name = "others"
		}
		p.line("when ", name, ":")
		p.block(when.Kids[0])
	}
}

func (p *printer) choice(n api.Node) {
	p.line("tagcase ", p.expr(n.Kids[0]))
	for _, k := range n.Kids[1:] {
		arm := p.nodes[k]
		p.line("tag ", arm.Name, "(", arm.Var, ": ", arm.Type, "):")
		p.block(arm.Kids[0])
	}
}

// operand returns the text of an expression that stands in parentheses if it has an operator.
func (p *printer) operand(i int) string {
	if p.nodes[i].Kind == api.ExOp {
		return "(" + p.expr(i) + ")"
	}
	return p.expr(i)
}

func (p *printer) expr(i int) string {
	n := p.nodes[i]
	switch n.Kind {
	case api.ExInt:
		return strconv.Itoa(n.N)
	case api.ExBool:
		return strconv.FormatBool(n.N == 1)
	case api.ExNil:
		return "nil"
	case api.ExCall:
		return p.call(n)
	case api.ExOp:
		return p.operation(n)
	case api.ExIndex:
		return p.operand(n.Kids[0]) + "[" + p.expr(n.Kids[1]) + "]"
	case api.ExField:
		return p.operand(n.Kids[0]) + "." + n.Name
	case api.ExUp:
		return "up(" + p.expr(n.Kids[0]) + ")"
	case api.ExDown:
		return "down(" + p.expr(n.Kids[0]) + ")"
	}
	return n.Name
}

func (p *printer) call(n api.Node) string {
	var args []string
	for _, k := range n.Kids {
		args = append(args, p.expr(k))
	}
	name := n.Name
	switch {
	case n.Var != "":
		name = n.Var + "$" + name
	case n.Type != "":
		name += "{" + n.Type + "}"
	}
	return name + "(" + strings.Join(args, ", ") + ")"
}

func (p *printer) operation(n api.Node) string {
	if n.Name == "not" {
		return "not " + p.operand(n.Kids[0])
	}
	return p.operand(n.Kids[0]) + " " + n.Name + " " + p.operand(n.Kids[1])
}
