package code

import (
	"slices"
	"strings"
	"testing"

	"retrace/api"
)

// lines is assembler text as the chapter's examples have it, `;` for line feeds.
func lines(text string) string {
	return strings.ReplaceAll(text, ";", "\n")
}

// example is the chapter's c.
func example() api.Code {
	return api.Code{
		Instrs: []api.Instr{{Op: api.InInt, A: 2}, {Op: api.InNew, A: 1}, {Op: api.InStore}, {Op: api.InText}, {Op: api.InPrint, A: 1}, {Op: api.InDone}},
		Entrys: []api.Entry{{Name: "main", Sorts: []api.Sort{5}}},
		Texts:  []string{`a"`},
	}
}

const (
	exampleText  = "main 0\npool \"a\\\"\"\nfn main 0 - [int]\n  int 2\n  new int\n  store 0\n  text 0\n  print 1\n  done\n"
	exampleBytes = "\x43\x00" + "\x01" + "\x04main\x00\x00\x00\x00\x00\x01\x05\x00" + "\x00\x01\x02a\"" + "\x00\x00\x00\x06" + "\x01\x00\x00\x00\x00\x00\x00\x00\x02" + "\x0e\x01" + "\x05\x00" + "\x03\x00\x00" + "\x13\x01" + "\x0d"
)

// The chapter's examples.
func TestExample(t *testing.T) {
	c := example()
	if errno := Valid(c); errno != api.OK {
		t.Errorf("Valid: %d", errno)
	}
	if text, errno := Print(c); errno != api.OK || text != exampleText {
		t.Errorf("Print: %q, %d", text, errno)
	}
	if b, errno := Encode(c); errno != api.OK || b != exampleBytes {
		t.Errorf("Encode: %x, %d", b, errno)
	}
	if back, errno := Decode(exampleBytes); errno != api.OK || !same(back, c) {
		t.Errorf("Decode: %v, %d", back, errno)
	}
	if back, errno, line := Assemble(exampleText); errno != api.OK || line != 0 || !same(back, c) {
		t.Errorf("Assemble: %v, %d, %d", back, errno, line)
	}
}

func TestExampleRefusals(t *testing.T) {
	other, strange, bare, many := example(), example(), example(), example()
	other.Main = 1
	strange.Entrys[0].Sorts[0] = 4
	bare.Instrs[4].A = 0
	many.Entrys = slices.Repeat(many.Entrys, 61)
	for _, c := range []struct {
		code api.Code
		want api.Errno
	}{{other, api.ErrCode}, {strange, api.ErrCode}, {bare, api.ErrCode}, {many, api.ErrSize}} {
		refuses(t, c.code, c.want)
	}
}

func TestExampleLines(t *testing.T) {
	c, errno, line := Assemble(lines("main 0 # one;;\tfn  f 0 -;nop"))
	if want := (api.Code{Instrs: []api.Instr{{}}, Entrys: []api.Entry{{Name: "f"}}}); errno != api.OK || line != 0 || !same(c, want) {
		t.Errorf("%v, %d, %d", c, errno, line)
	}
	for text, want := range map[string]int{
		"": 2, "main 1;fn f 0 -;nop;": 5, "main 0;fn f 0 -": 3,
		"main 0;nop": 2, "main 0;fn f 1 -": 2, "main 0;fn f 0 -;int 01": 3, "main 0;fn f 0 -;jump 60000": 3,
		"main 0;fn f 0 -;nop;pool \"x\"": 4, "pool \"x\"": 1,
	} {
		wrongAt(t, lines(text), want)
	}
}

// Chapter 16's text reads as the code that it tells of.
func TestMachineExample(t *testing.T) {
	c, errno, _ := Assemble(lines("main 0;fn main 0 - int;int 2;int 3;bin *;store 0;show 7 0;load 0;print 1;done"))
	want := api.Code{
		Instrs: []api.Instr{{Op: api.InInt, A: 2}, {Op: api.InInt, A: 3}, {Op: api.InBin, A: int64(api.OpMul)}, {Op: api.InStore}, {Op: api.InShow, A: 7}, {Op: api.InLoad}, {Op: api.InPrint, A: 1}, {Op: api.InDone}},
		Entrys: []api.Entry{{Name: "main", Sorts: []api.Sort{1}}},
	}
	if errno != api.OK || !same(c, want) {
		t.Errorf("%v, %d", c, errno)
	}
}

// The table: each instruction's word, its operands as words, and its bytes.
func TestTable(t *testing.T) {
	for _, c := range []struct {
		in          api.Instr
		text, bytes string
	}{
		{api.Instr{Op: api.InNop}, "nop", "\x00"},
		{api.Instr{Op: api.InInt}, "int 0", "\x01\x00\x00\x00\x00\x00\x00\x00\x00"},
		{api.Instr{Op: api.InInt, A: -1}, "int -1", "\x01\xff\xff\xff\xff\xff\xff\xff\xff"},
		{api.Instr{Op: api.InInt, A: -1 << 63}, "int -9223372036854775808", "\x01\x80\x00\x00\x00\x00\x00\x00\x00"},
		{api.Instr{Op: api.InInt, A: 1<<63 - 1}, "int 9223372036854775807", "\x01\x7f\xff\xff\xff\xff\xff\xff\xff"},
		{api.Instr{Op: api.InInt, A: 0x0102030405060708}, "int 72623859790382856", "\x01\x01\x02\x03\x04\x05\x06\x07\x08"},
		{api.Instr{Op: api.InBool}, "bool false", "\x02\x00"},
		{api.Instr{Op: api.InBool, A: 1}, "bool true", "\x02\x01"},
		{api.Instr{Op: api.InText, A: 3999}, "text 3999", "\x03\x0f\x9f"},
		{api.Instr{Op: api.InLoad, A: 249}, "load 249", "\x04\xf9"},
		{api.Instr{Op: api.InStore, A: 10}, "store 10", "\x05\x0a"},
		{api.Instr{Op: api.InPop}, "pop", "\x06"},
		{api.Instr{Op: api.InUn, A: int64(api.OpNeg)}, "un -", "\x07\x01"},
		{api.Instr{Op: api.InUn, A: int64(api.OpNot)}, "un !", "\x07\x02"},
		{api.Instr{Op: api.InBin, A: int64(api.OpAdd)}, "bin +", "\x08\x03"},
		{api.Instr{Op: api.InBin, A: int64(api.OpSub)}, "bin -", "\x08\x04"},
		{api.Instr{Op: api.InBin, A: int64(api.OpMul)}, "bin *", "\x08\x05"},
		{api.Instr{Op: api.InBin, A: int64(api.OpDiv)}, "bin /", "\x08\x06"},
		{api.Instr{Op: api.InBin, A: int64(api.OpMod)}, "bin %", "\x08\x07"},
		{api.Instr{Op: api.InBin, A: int64(api.OpEq)}, "bin ==", "\x08\x08"},
		{api.Instr{Op: api.InBin, A: int64(api.OpNe)}, "bin !=", "\x08\x09"},
		{api.Instr{Op: api.InBin, A: int64(api.OpLt)}, "bin <", "\x08\x0a"},
		{api.Instr{Op: api.InBin, A: int64(api.OpLe)}, "bin <=", "\x08\x0b"},
		{api.Instr{Op: api.InBin, A: int64(api.OpGt)}, "bin >", "\x08\x0c"},
		{api.Instr{Op: api.InBin, A: int64(api.OpGe)}, "bin >=", "\x08\x0d"},
		{api.Instr{Op: api.InJump, A: 59999}, "jump 59999", "\x09\x00\x00\xea\x5f"},
		{api.Instr{Op: api.InFalse, A: 256}, "false 256", "\x0a\x00\x00\x01\x00"},
		{api.Instr{Op: api.InCall, A: 59}, "call 59", "\x0b\x3b"},
		{api.Instr{Op: api.InRet}, "ret", "\x0c"},
		{api.Instr{Op: api.InDone}, "done", "\x0d"},
		{api.Instr{Op: api.InNew, A: 1}, "new int", "\x0e\x01"},
		{api.Instr{Op: api.InNew, A: 2}, "new bool", "\x0e\x02"},
		{api.Instr{Op: api.InNew, A: 7}, "new [text]", "\x0e\x07"},
		{api.Instr{Op: api.InNew, A: 10}, "new [[bool]]", "\x0e\x0a"},
		{api.Instr{Op: api.InNew, A: 15}, "new [[[text]]]", "\x0e\x0f"},
		{api.Instr{Op: api.InGet}, "get", "\x0f"},
		{api.Instr{Op: api.InPut}, "put", "\x10"},
		{api.Instr{Op: api.InLen}, "len", "\x11"},
		{api.Instr{Op: api.InStr}, "str", "\x12"},
		{api.Instr{Op: api.InPrint, A: 16}, "print 16", "\x13\x10"},
		{api.Instr{Op: api.InRead}, "read", "\x14"},
		{api.Instr{Op: api.InEmit, A: 40000}, "emit 40000", "\x15\x9c\x40"},
		{api.Instr{Op: api.InShow, A: 1, B: 249}, "show 1 249", "\x16\x00\x01\xf9"},
		{api.Instr{Op: api.InShow, A: 40000}, "show 40000 0", "\x16\x9c\x40\x00"},
		{api.Instr{Op: api.InTell, A: 258}, "tell 258", "\x17\x01\x02"},
	} {
		code := api.Code{Instrs: []api.Instr{c.in}, Entrys: []api.Entry{{Name: "f"}}}
		lays(t, code)
		if text, _ := Print(code); text != "main 0\nfn f 0 -\n  "+c.text+"\n" {
			t.Errorf("%v is printed as %q", c.in, text)
		}
		if b, _ := Encode(code); b != "C\x00\x01\x01f\x00\x00\x00\x00\x00\x00\x00\x00\x00\x00\x00\x00\x01"+c.bytes {
			t.Errorf("%v is encoded to %x", c.in, b)
		}
		if back, errno, line := Assemble("main 0\nfn f 0 -\n" + c.text); errno != api.OK || line != 0 || !same(back, code) {
			t.Errorf("%q is assembled to %v, %d, %d", c.text, back, errno, line)
		}
	}
}
