package code

import (
	"slices"
	"strings"
	"testing"
	"unsafe"

	"retrace/api"
)

// span is a piece of memory.
type span struct {
	what        string
	first, last uintptr
}

func listSpan[T any](what string, list []T) span {
	first := uintptr(unsafe.Pointer(unsafe.SliceData(list)))
	return span{what, first, first + uintptr(cap(list))*unsafe.Sizeof(*new(T))}
}

func textSpan(what, text string) span {
	first := uintptr(unsafe.Pointer(unsafe.StringData(text)))
	return span{what, first, first + uintptr(len(text))}
}

// spans is all memory of a code.
func spans(c api.Code) []span {
	all := []span{listSpan("list of instructions", c.Instrs), listSpan("list of functions", c.Entrys[:cap(c.Entrys)]), listSpan("list of texts", c.Texts)}
	for _, e := range c.Entrys {
		all = append(all, listSpan("list of sorts", e.Sorts), textSpan("name", e.Name))
	}
	for _, text := range c.Texts {
		if len(text) > 1 { // the runtime has one place for all texts of a byte
			all = append(all, textSpan("text", text))
		}
	}
	return all
}

// apart wants all of the spans to be memory of their own.
func apart(t *testing.T, all []span) {
	t.Helper()
	for i, a := range all {
		for _, b := range all[i+1:] {
			if a.first < b.last && b.first < a.last {
				t.Fatalf("the %s shares memory with the %s", a.what, b.what)
			}
		}
	}
}

// P13.8: what is answered is new memory, spare room included.
func TestNewMemory(t *testing.T) {
	for seed := range seeds(200) {
		c := newGrower(seed).code()
		b := strings.Clone(wantedBytes(c))
		text := strings.Clone(wantedText(c))
		one, _ := Decode(b)
		two, _ := Decode(b)
		three, _, _ := Assemble(text)
		four, _, _ := Assemble(text)
		encoded, _ := Encode(one)
		printed, _ := Print(one)
		again, _ := Encode(one)
		apart(t, slices.Concat(spans(one), spans(two), spans(three), spans(four), []span{textSpan("bytes", b), textSpan("assembler text", text), textSpan("encoded", encoded), textSpan("printed", printed), textSpan("encoded again", again)}))
	}
}

// roomy is a list with spare room that says something.
func roomy[T any](list []T, spare ...T) []T {
	return append(slices.Clone(list), spare...)[:len(list)]
}

// deep is a copy of a code with all its lists, spare room included.
func deep(c api.Code) api.Code {
	c.Instrs = slices.Clone(c.Instrs[:cap(c.Instrs)])
	c.Texts = slices.Clone(c.Texts[:cap(c.Texts)])
	c.Entrys = slices.Clone(c.Entrys[:cap(c.Entrys)])
	for i, e := range c.Entrys {
		c.Entrys[i].Sorts = slices.Clone(e.Sorts[:cap(e.Sorts)])
	}
	return c
}

// P13.8: what is handed in is not changed, spare room included, and asked again it is answered the same.
func TestUnchanged(t *testing.T) {
	for seed := range seeds(2000) {
		g := newGrower(seed)
		c := g.code()
		if seed%2 == 0 {
			g.spoil(&c)
		}
		c.Instrs = roomy(c.Instrs, api.Instr{Op: 99, A: 5})
		c.Texts = roomy(c.Texts, "spare")
		c.Entrys = roomy(c.Entrys, api.Entry{Name: "spare"})
		for i, e := range c.Entrys {
			c.Entrys[i].Sorts = roomy(e.Sorts, 99)
		}
		before := deep(c)
		errno := Valid(c)
		b, encodeCode := Encode(c)
		text, printCode := Print(c)
		if !same(deep(c), before) {
			t.Fatalf("%v was changed to %v", before, deep(c))
		}
		again, againCode := Encode(c)
		printed, printedCode := Print(c)
		if Valid(c) != errno || encodeCode != errno || printCode != errno || again != b || againCode != errno || printed != text || printedCode != errno {
			t.Fatalf("%v is answered another way", c)
		}
	}
}

// P13.8: what is done to an answer is not seen in the next one.
func TestAnswersStandAlone(t *testing.T) {
	scribble := func(c api.Code) {
		for i := range c.Instrs[:cap(c.Instrs)] {
			c.Instrs[:cap(c.Instrs)][i] = api.Instr{Op: 77}
		}
		for i := range c.Entrys {
			for j := range c.Entrys[i].Sorts {
				c.Entrys[i].Sorts[j] = 4
			}
			c.Entrys[i] = api.Entry{}
		}
		clear(c.Texts)
	}
	for seed := range seeds(200) {
		c := newGrower(seed).code()
		b, text := wantedBytes(c), wantedText(c)
		for range 2 {
			decoded, _ := Decode(b)
			assembled, _, _ := Assemble(text)
			if !same(decoded, c) || !same(assembled, c) {
				t.Fatalf("%v, %v, want %v", decoded, assembled, c)
			}
			scribble(decoded)
			if !same(assembled, c) {
				t.Fatalf("%v, want %v", assembled, c)
			}
			scribble(assembled)
		}
	}
}
