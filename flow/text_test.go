package flow_test

import (
	"strings"
	"testing"

	"argus/api"
	"argus/flow"
)

const textOfMany = `flow p proc 2 1
regs 1 2 1 2 3 1 1
slots 2 1
signals
block
ins 1 2 0 0 5
ins 9 3 0 0 0
ins 10 3 0 0 2 0 1 2
ins 18 0 2 0 1
end 7 4 0 1 0 -1 0 1
name it
block
end 8 4 5 2 3 5
when low 4
block
ins 19 6 0 0 0 5
ins 15 0 6 0 0
ins 12 0 1 2 1
ins 16 0 4 0 0
end 1 0 0 1 0 -1
block
end 5 0 0 4 0 -1
try 38 0 3 2 0 0
when bounds 5
block
ins 19 5 0 0 0 2 0
end 6 2 0 5 0 -1 0 1
name p
block
ins 19 2 0 0 0 2 2 2
end 2 0 0 6 6 -1
block
ins 5 2 1 3 0
ins 17 2 0 0 1
end 3 2 0 0 0 -1
`

// H7: texts of flows.
func TestTexts(t *testing.T) {
	small := iterator(proc("it!", "r", block(yield(0, 1)), block(signal("a1"))), 1, api.RegRef)
	small.Signals = []string{"a1", "b"}
	for _, x := range []struct {
		f    api.Flow
		want string
	}{
		{many(), textOfMany},
		{small, "flow it! iter 1 2\nregs 2\nslots\nsignals a1 b\nblock\nend 9 0 0 1 0 -1\nblock\nend 4 0 0 0 0 -1\nname a1\n"},
		{proc("p", "", block(ret(-1))), "flow p proc 0 0\nregs\nslots\nsignals\nblock\nend 3 -1 0 0 0 -1\n"},
		{proc("p", "w", block(ret(-1), number(0, -1000000000))), "flow p proc 0 0\nregs 1\nslots\nsignals\nblock\nins 1 0 0 0 -1000000000\nend 3 -1 0 0 0 -1\n"},
	} {
		if s, e := flow.Write(x.f); s != x.want || e != api.OK {
			t.Errorf("H7: %q, %d", s, e)
		}
		if f, e := flow.Read(x.want); !same(f, x.f) || e != api.OK {
			t.Errorf("H7: %+v, %d", f, e)
		}
	}
}

// H7: texts of no flows.
func TestErrorsOfTexts(t *testing.T) {
	for _, x := range []struct{ old, new string }{
		{"flow p", "flow"}, {"flow p", "flow  p"}, {"flow p", " flow p"}, {"flow p", "Flow p"}, {"flow p", "flow p q"}, {"proc", "iter"}, {"proc", "other"}, {"proc 2", "proc 02"}, {"proc 2", "proc +2"}, {"proc 2 1", "proc 2"}, {"proc 2 1", "proc 2 1 "}, {"proc 2 1", "proc 2 1 0"}, {"proc 2 1", "proc 2 257"}, {"proc 2 1", "proc 2 2"},
		{"regs 1 2", "regs 1  2"}, {"regs 1 2", "regs 257 2"}, {"regs 1 2", "regs 4 2"}, {"regs 1 2", "regs x 2"}, {"3 1 1\n", "3 1 1 \n"}, {"slots 2 1\n", "slots 2\n"}, {"slots 2 1\n", "slots 2 3\n"}, {"slots 2 1\n", ""}, {"signals\n", "signals \n"}, {"signals\n", "signals b a\n"}, {"signals\n", ""}, {"signals\n", "signals\n\n"},
		{"block\nins 1", "ins 1"}, {"block\nins 1", "blocks\nins 1"}, {"block\nins 1", "block 1\nins 1"}, {"ins 1 2 0 0 5", "ins 1 2 0 0"}, {"ins 1 2 0 0 5", "ins 1 2 0 0 5 0"}, {"ins 1 2 0 0 5", "ins 1 2 0 0 -0"}, {"ins 1 2 0 0 5", "ins 1 2 0 0 1000000001"}, {"ins 1 2 0 0 5", "ins 1 2 0 0 99999999999999999999"}, {"ins 1 2 0 0 5", "ins 257 2 0 0 5"}, {"ins 1 2 0 0 5", "ins 1 2 0 0 0x5"}, {"ins 1 2 0 0 5", "ins 1 2 0 0 05"}, {"ins 1 2 0 0 5", "ins 1 2 0 0 5\r"}, {"ins 1 2 0 0 5", "ins 1 2 0 0 1_0"},
		{"end 7", "end 263"}, {"name it\n", ""}, {"name it\n", "name \n"}, {"name it\n", "name i t\n"}, {"name it\n", "name it it\n"}, {"name it\n", "name it\nname it\n"}, {"end 8 4 5 2 3 5\n", "end 8 4 5 2 3\n"}, {"end 8 4 5 2 3 5\n", "end 8 4 5 2 3 5\nname a\n"}, {"when low 4", "when low"}, {"when low 4", "when low 4 4"}, {"when low 4", "when low -1"}, {"when low 4\n", "when low 4\nwhen low 4\n"}, {"when low 4", "When low 4"},
		{"try 38 0 3 2 0 0\n", ""}, {"try 38 0 3 2 0 0\nwhen bounds 5\n", "when bounds 5\ntry 38 0 3 2 0 0\n"}, {"try 38", "ins 38"}, {"end 5 0 0 4 0 -1\ntry 38 0 3 2 0 0\n", "try 38 0 3 2 0 0\nend 5 0 0 4 0 -1\n"}, {"end 1 0 0 1 0 -1\n", "end 1 0 0 1 0 -1\ntry 38 0 3 2 0 0\n"},
		{"end 3 2 0 0 0 -1\n", "end 3 2 0 0 0 -1"}, {"end 3 2 0 0 0 -1\n", "end 3 2 0 0 0 -1\n\n"}, {"end 3 2 0 0 0 -1\n", "end 3 2 0 0 0 -1\nflow p proc 2 1\n"}, {"end 3 2 0 0 0 -1\n", ""}, {"end 3 2 0 0 0 -1\n", "end 3 2 0 0 0 0\n"},
		{"ins 1 2 0 0 5\n", ""}, {textOfMany, ""}, {textOfMany, "\n"}, {textOfMany, "flow p proc 0 0\nregs\nslots\nsignals\n"}, {textOfMany, textOfMany + textOfMany},
	} {
		s := strings.Replace(textOfMany, x.old, x.new, 1)
		if s == textOfMany {
			t.Errorf("no change: %q", x.old)
		}
		if f, e := flow.Read(s); e != api.ErrForm || !same(f, api.Flow{}) {
			t.Errorf("H7: %q for %q: %d", x.new, x.old, e)
		}
	}
	for want, end := range map[api.Errno]int{api.ErrRead: 2, api.ErrFlow: 3} {
		f := sum()
		f.Blocks[3].End.A = end
		if s, e := flow.Write(f); s != "" || e != want {
			t.Errorf("H7: %q, %d", s, e)
		}
	}
}
