package code_test

import (
	"bytes"
	"encoding/binary"
	"encoding/hex"
	"fmt"
	"math"
	"math/rand"
	"runtime"
	"slices"
	"strings"
	"testing"

	"stockpot/api"
	"stockpot/code"
)

// told is what the document tells of an Op's instructions: how many bytes A and B take, and the least and the greatest of each that may be, written with numbers.
type told struct {
	op, aBytes, bBytes int
	a, b               [2]int
}

var (
	none  = [2]int{0, 0}
	any63 = [2]int{-4611686018427387904, 4611686018427387903}
)

// table is of each Op a row, of host of each call.
var table = []told{
	{0, 8, 0, any63, none},                   // int
	{1, 2, 0, [2]int{0, 39}, none},           // str
	{2, 2, 0, [2]int{0, 59}, none},           // local
	{3, 2, 0, [2]int{0, 59}, none},           // set
	{4, 2, 0, [2]int{0, 29}, none},           // env
	{5, 0, 0, none, none},                    // self
	{6, 2, 1, [2]int{1, 59}, [2]int{0, 30}},  // close
	{7, 0, 0, none, none},                    // call
	{8, 0, 0, none, none},                    // tail
	{9, 0, 0, none, none},                    // ret
	{10, 2, 0, [2]int{0, 599}, none},         // jump
	{11, 2, 0, [2]int{0, 599}, none},         // jumpz
	{12, 0, 0, none, none},                   // add
	{13, 0, 0, none, none},                   // sub
	{14, 0, 0, none, none},                   // mul
	{15, 0, 0, none, none},                   // div
	{16, 0, 0, none, none},                   // mod
	{17, 0, 0, none, none},                   // eq
	{18, 0, 0, none, none},                   // less
	{19, 2, 1, [2]int{0, 255}, [2]int{1, 8}}, // block
	{20, 2, 0, [2]int{0, 7}, none},           // field
	{21, 8, 0, any63, none},                  // isint
	{22, 2, 0, [2]int{0, 255}, none},         // istag
	{23, 0, 0, none, none},                   // store
	{24, 0, 0, none, none},                   // array
	{25, 0, 0, none, none},                   // get
	{26, 0, 0, none, none},                   // put
	{27, 0, 0, none, none},                   // len
	{28, 0, 0, none, none},                   // cat
	{29, 0, 0, none, none},                   // size
	{30, 0, 0, none, none},                   // byte
	{31, 0, 0, none, none},                   // text
	{32, 0, 0, none, none},                   // same
	{33, 2, 0, [2]int{0, 599}, none},         // try
	{34, 0, 0, none, none},                   // untry
	{35, 0, 0, none, none},                   // raise
	{36, 2, 1, [2]int{0, 0}, none},           // host, emit
	{36, 2, 1, [2]int{1, 1}, none},           // host, log
	{36, 2, 1, [2]int{2, 2}, none},           // host, send
	{36, 2, 1, [2]int{3, 3}, [2]int{0, 39}},  // host, recv
	{37, 0, 0, none, none},                   // pop
}

// edges are numbers at which a limit, a byte, a sign or a cut is easily told wrong.
var edges = func() []int {
	l := []int{math.MinInt, math.MinInt + 1, -1<<62 - 1, -1 << 62, -1 << 32, -1 << 31, -65536, -256, -255, -3, -2, 511, 512, 598, 599, 600, 601, 65535, 65536, 65537, 1<<31 - 1, 1 << 31, 1 << 32, 1<<32 + 1, 1<<62 - 1, 1 << 62, math.MaxInt}
	for n := -1; n <= 260; n++ {
		l = append(l, n)
	}
	return l
}()

// plain is the bytes of the program as the document tells them, whether it may be or not.
func plain(p api.Program) []byte {
	b := []byte{byte(len(p.Funcs)), byte(len(p.Strs)), byte(len(p.Forms))}
	for _, f := range p.Funcs {
		b = append(b, byte(f.Locals), byte(f.Free))
		b = binary.BigEndian.AppendUint16(b, uint16(len(f.Code)))
		for _, i := range f.Code {
			b = append(b, plainIns(i)...)
		}
	}
	for _, s := range p.Strs {
		b = append(append(b, byte(len(s))), s...)
	}
	for _, f := range p.Forms {
		b = append(b, byte(f.Kind), byte(f.A), byte(f.B), byte(len(f.Cons)))
		for _, n := range f.Cons {
			b = append(b, byte(n))
		}
	}
	return b
}

// plainIns is the bytes of the instruction.
func plainIns(i api.Ins) []byte {
	b := []byte{byte(i.Op)}
	for _, x := range table {
		if x.op != i.Op {
			continue
		}
		switch x.aBytes {
		case 8:
			b = binary.BigEndian.AppendUint64(b, uint64(i.A))
		case 2:
			b = binary.BigEndian.AppendUint16(b, uint16(i.A))
		}
		if x.bBytes == 1 {
			b = append(b, byte(i.B))
		}
		return b
	}
	return b
}

// insMayBe says whether the table has the instruction.
func insMayBe(i api.Ins) bool {
	return slices.ContainsFunc(table, func(x told) bool {
		return x.op == i.Op && x.a[0] <= i.A && i.A <= x.a[1] && x.b[0] <= i.B && i.B <= x.b[1]
	})
}

// equal says whether both are one program, nil and empty lists taken as one.
func equal(p, q api.Program) bool {
	return slices.Equal(p.Strs, q.Strs) &&
		slices.EqualFunc(p.Funcs, q.Funcs, func(f, g api.Func) bool {
			return f.Locals == g.Locals && f.Free == g.Free && slices.Equal(f.Code, g.Code)
		}) &&
		slices.EqualFunc(p.Forms, q.Forms, func(f, g api.Form) bool {
			return f.Kind == g.Kind && f.A == g.A && f.B == g.B && slices.Equal(f.Cons, g.Cons)
		})
}

// isNone says whether it is the zero program.
func isNone(p api.Program) bool { return equal(p, api.Program{}) }

// copied is the program in memory of its own.
func copied(p api.Program) api.Program {
	p.Funcs, p.Strs, p.Forms = slices.Clone(p.Funcs), slices.Clone(p.Strs), slices.Clone(p.Forms)
	for i := range p.Funcs {
		p.Funcs[i].Code = slices.Clone(p.Funcs[i].Code)
	}
	for i := range p.Forms {
		p.Forms[i].Cons = slices.Clone(p.Forms[i].Cons)
	}
	return p
}

// short is the program as a message tells it.
func short(p api.Program) string {
	s := fmt.Sprintf("%#v", p)
	return s[:min(len(s), 400)]
}

// few is the bytes as a message tells them.
func few(b []byte) string {
	if len(b) > 300 {
		return fmt.Sprintf("%x.. (%d bytes)", b[:300], len(b))
	}
	return fmt.Sprintf("%x", b)
}

// mayBe expects that the program may be, and is there and back with the bytes that the document tells; these are answered.
func mayBe(t *testing.T, p api.Program) []byte {
	t.Helper()
	before := copied(p)
	if !code.Good(p) {
		t.Errorf("Good(%s): false", short(p))
	}
	b, ok := code.Encode(p)
	if !ok || !bytes.Equal(b, plain(p)) {
		t.Errorf("Encode(%s) = %s, %t, want %s", short(p), few(b), ok, few(plain(p)))
	}
	if q, ok := code.Decode(plain(p)); !ok || !equal(p, q) {
		t.Errorf("Decode(%s) = %s, %t, want %s", few(plain(p)), short(q), ok, short(p))
	}
	if !equal(p, before) {
		t.Errorf("%s became %s", short(before), short(p))
	}
	return b
}

// mayNotBe expects that the program may not be, and that no bytes are its.
func mayNotBe(t *testing.T, p api.Program) {
	t.Helper()
	if code.Good(p) {
		t.Errorf("Good(%s): true", short(p))
	}
	if b, ok := code.Encode(p); ok || len(b) > 0 {
		t.Errorf("Encode(%s) = %s, %t, want none", short(p), few(b), ok)
	}
	b := plain(p)
	asTold(t, b)
	if q, ok := code.Decode(b); ok && equal(p, q) {
		t.Errorf("Decode(%s) = %s, that may not be", few(b), short(q))
	}
}

// asTold expects of the bytes a program that may be and whose bytes these are, or nothing.
func asTold(t *testing.T, b []byte) bool {
	t.Helper()
	before := bytes.Clone(b)
	p, ok := code.Decode(b)
	if !bytes.Equal(b, before) {
		t.Errorf("Decode changed %s to %s", few(before), few(b))
	}
	if !ok {
		if !isNone(p) {
			t.Errorf("Decode(%s) = %s, false", few(b), short(p))
		}
		return false
	}
	if !code.Good(p) || !bytes.Equal(plain(p), b) {
		t.Errorf("Decode(%s) = %s, of the bytes %s, good: %t", few(b), short(p), few(plain(p)), code.Good(p))
	}
	if c, again := code.Encode(p); !again || !bytes.Equal(c, b) {
		t.Errorf("Encode of Decode(%s) = %s, %t", few(b), few(c), again)
	}
	return true
}

// noProgram expects that no program has the bytes.
func noProgram(t *testing.T, b []byte) {
	t.Helper()
	if asTold(t, b) {
		t.Errorf("Decode(%s): a program", few(b))
	}
}

// unhex is the bytes that the text tells, whatever spaces stand between them.
func unhex(t *testing.T, s string) []byte {
	t.Helper()
	b, err := hex.DecodeString(strings.ReplaceAll(s, " ", ""))
	if err != nil {
		t.Fatal(err)
	}
	return b
}

// of is a program of one function with this code.
func of(l ...api.Ins) api.Program { return api.Program{Funcs: []api.Func{{Code: l}}} }

// rich is a program with some of all, a form of each kind.
func rich() api.Program {
	return api.Program{
		Funcs: []api.Func{
			{Locals: 3, Code: []api.Ins{{Op: api.OInt, A: -2}, {Op: api.OClose, A: 1, B: 1}, {Op: api.OHost, A: api.HRecv, B: 2}, {Op: api.OCall}, {Op: api.ORet}}},
			{Locals: 2, Free: 1, Code: []api.Ins{{Op: api.OStr, A: 1}, {Op: api.OBlock, A: 255, B: 8}, {Op: api.OJumpZ, A: 599}, {Op: api.OIsInt, A: 258}, {Op: api.ORaise}}},
			{Locals: 1, Code: []api.Ins{{Op: api.OPop}}},
		},
		Strs: []string{"", "a\x00\xff", "salt"},
		Forms: []api.Form{
			{Kind: api.FInt},
			{Kind: api.FPair, A: 0, B: 2},
			{Kind: api.FData, Cons: []int{-1, 1, 0}},
			{Kind: api.FList, A: 2},
			{Kind: api.FBool},
			{Kind: api.FUnit},
			{Kind: api.FStr},
		},
	}
}

// eachOp is a program with each row of the table at its least and its greatest.
func eachOp() api.Program {
	var l []api.Ins
	for _, x := range table {
		for _, a := range x.a {
			for _, b := range x.b {
				l = append(l, api.Ins{Op: x.op, A: a, B: b})
			}
		}
	}
	l = slices.Compact(l)
	return api.Program{Funcs: []api.Func{{Code: l}, {Locals: 60, Free: 30, Code: l}}}
}

// greatest is a program than which none has more of anything.
func greatest() api.Program {
	var p api.Program
	for i := range 60 {
		f := api.Func{Locals: 60, Free: 30}
		if i == 0 {
			f.Free = 0
		}
		for k := range 600 {
			f.Code = append(f.Code, api.Ins{Op: api.OInt, A: (1<<62-1)*(k%2) - (1 << 62 * (1 - k%2))})
		}
		p.Funcs = append(p.Funcs, f)
	}
	for i := range 40 {
		p.Strs = append(p.Strs, strings.Repeat(string([]byte{byte(255 - i)}), 60))
		p.Forms = append(p.Forms, api.Form{Kind: api.FData, Cons: slices.Repeat([]int{39, -1}, 10)})
	}
	return p
}

// P7.1

func TestExample(t *testing.T) {
	b := unhex(t, "01 00 00  00 00 00 02  00 0000000000000001  09")
	if c := mayBe(t, of(api.Ins{Op: api.OInt, A: 1}, api.Ins{Op: api.ORet})); !bytes.Equal(b, c) {
		t.Errorf("%x, want %x", c, b)
	}
}

func TestBytes(t *testing.T) {
	b := unhex(t, "03 03 07"+
		"03 00 0005  00 fffffffffffffffe  06 0001 01  24 0003 02  07  09"+
		"02 01 0005  01 0001  13 00ff 08  0b 0257  15 0000000000000102  23"+
		"01 00 0001  25"+
		"00  03 6100ff  04 73616c74"+
		"01 00 00 00  05 00 02 00  07 00 00 03 ff 01 00  06 02 00 00  02 00 00 00  03 00 00 00  04 00 00 00")
	if c := mayBe(t, rich()); !bytes.Equal(b, c) {
		t.Errorf("%x, want %x", c, b)
	}
}

func TestTheTableTellsOfEachOp(t *testing.T) {
	for k := range api.Ops {
		if !slices.ContainsFunc(table, func(x told) bool { return x.op == k }) {
			t.Errorf("nothing of Op %d", k)
		}
	}
}

func TestBytesOfEachOp(t *testing.T) {
	mayBe(t, eachOp())
	for _, x := range table {
		for _, a := range x.a {
			for _, b := range x.b {
				i := api.Ins{Op: x.op, A: a, B: b}
				c := mayBe(t, of(i))
				if n := 3 + 4 + 1 + x.aBytes + x.bBytes; len(c) != n {
					t.Errorf("%v: %d bytes, want %d", i, len(c), n)
				}
			}
		}
	}
}

func TestEachInstruction(t *testing.T) {
	for k := range api.Ops {
		for _, a := range edges {
			for _, b := range []int{math.MinInt, -1, 0, 1, 2, 7, 8, 9, 29, 30, 31, 38, 39, 40, 255, 256, 257, 264, 1 << 32, math.MaxInt} {
				i := api.Ins{Op: k, A: a, B: b}
				if insMayBe(i) {
					mayBe(t, of(i))
				} else {
					mayNotBe(t, of(i))
				}
			}
		}
	}
}

func TestEachB(t *testing.T) {
	for k := range api.Ops {
		for _, a := range []int{0, 1, 2, 3} {
			for _, b := range edges {
				i := api.Ins{Op: k, A: a, B: b}
				if insMayBe(i) {
					mayBe(t, of(i))
				} else {
					mayNotBe(t, of(i))
				}
			}
		}
	}
}

func TestNumbersOf63Bits(t *testing.T) {
	for _, x := range []struct {
		bytes string
		n     int
		good  bool
	}{
		{"0000000000000000", 0, true},
		{"0000000000000080", 128, true},
		{"0000000000008000", 32768, true},
		{"0000000080000000", 1 << 31, true},
		{"0102030405060708", 0x0102030405060708, true},
		{"3fffffffffffffff", 1<<62 - 1, true},
		{"4000000000000000", 1 << 62, false},
		{"7fffffffffffffff", math.MaxInt, false},
		{"8000000000000000", math.MinInt, false},
		{"bfffffffffffffff", -1<<62 - 1, false},
		{"c000000000000000", -1 << 62, true},
		{"c000000000000001", -1<<62 + 1, true},
		{"ffffffff00000000", -1 << 32, true},
		{"ffffffff7fffffff", -1<<31 - 1, true},
		{"ffffffffffffffff", -1, true},
	} {
		for k, name := range map[int]string{api.OInt: "00", api.OIsInt: "15"} {
			b := unhex(t, "010000 00000001"+name+x.bytes)
			p := of(api.Ins{Op: k, A: x.n})
			if !x.good {
				noProgram(t, b)
				mayNotBe(t, p)
			} else if c := mayBe(t, p); !bytes.Equal(b, c) {
				t.Errorf("%x, want %x", c, b)
			}
		}
	}
}

func TestWhatIsNoOp(t *testing.T) {
	for _, k := range []int{math.MinInt, -1 << 32, -256, -38, -2, -1, 38, 39, 64, 127, 128, 255, 256, 256 + 9, 65536 + 9, 1 << 32, 1<<32 + 9, math.MaxInt} {
		mayNotBe(t, of(api.Ins{Op: k}))
		mayNotBe(t, of(api.Ins{Op: api.ORet}, api.Ins{Op: k}))
		mayNotBe(t, of(api.Ins{Op: k}, api.Ins{Op: api.ORet}))
	}
	for k := 38; k < 256; k++ {
		for n := range 12 {
			noProgram(t, append([]byte{1, 0, 0, 0, 0, 0, 1, byte(k)}, make([]byte, n)...))
			noProgram(t, append([]byte{1, 0, 0, 0, 0, 0, 2, byte(k)}, make([]byte, n)...))
		}
	}
}

func TestAnInstructionThatMayNotBeAnywhere(t *testing.T) {
	for f := range rich().Funcs {
		for k := range rich().Funcs[f].Code {
			for _, i := range []api.Ins{{Op: 38}, {Op: -1}, {Op: api.OStr, A: 40}, {Op: api.OAdd, A: 1}, {Op: api.OAdd, B: 1}, {Op: api.OClose}, {Op: api.OBlock}, {Op: api.OInt, A: 1 << 62}, {Op: api.OHost, A: 4}, {Op: api.OHost, B: 1}} {
				p := rich()
				p.Funcs[f].Code[k] = i
				mayNotBe(t, p)
			}
		}
	}
}

// limit is a number of a program, or how many of it has something, and the least and the greatest that may be.
type limit struct {
	name            string
	set             func(p *api.Program, n int)
	least, greatest int
}

// numbers are the limits of numbers; rich has seven forms.
var numbers = []limit{
	{"the first one's Locals", func(p *api.Program, n int) { p.Funcs[0].Locals = n }, 0, 60},
	{"the second one's Locals", func(p *api.Program, n int) { p.Funcs[1].Locals = n }, 1, 60},
	{"the last one's Locals", func(p *api.Program, n int) { p.Funcs[2].Locals = n }, 1, 60},
	{"the first one's Free", func(p *api.Program, n int) { p.Funcs[0].Free = n }, 0, 0},
	{"the second one's Free", func(p *api.Program, n int) { p.Funcs[1].Free = n }, 0, 30},
	{"the last one's Free", func(p *api.Program, n int) { p.Funcs[2].Free = n }, 0, 30},
	{"an int's A", func(p *api.Program, n int) { p.Forms[0].A = n }, 0, 0},
	{"an int's B", func(p *api.Program, n int) { p.Forms[0].B = n }, 0, 0},
	{"a pair's A", func(p *api.Program, n int) { p.Forms[1].A = n }, 0, 6},
	{"a pair's B", func(p *api.Program, n int) { p.Forms[1].B = n }, 0, 6},
	{"data's A", func(p *api.Program, n int) { p.Forms[2].A = n }, 0, 0},
	{"data's B", func(p *api.Program, n int) { p.Forms[2].B = n }, 0, 0},
	{"the first of the Cons", func(p *api.Program, n int) { p.Forms[2].Cons[0] = n }, -1, 6},
	{"the second of the Cons", func(p *api.Program, n int) { p.Forms[2].Cons[1] = n }, -1, 6},
	{"the last of the Cons", func(p *api.Program, n int) { p.Forms[2].Cons[2] = n }, -1, 6},
	{"a list's A", func(p *api.Program, n int) { p.Forms[3].A = n }, 0, 6},
	{"a list's B", func(p *api.Program, n int) { p.Forms[3].B = n }, 0, 0},
	{"a bool's A", func(p *api.Program, n int) { p.Forms[4].A = n }, 0, 0},
	{"a bool's B", func(p *api.Program, n int) { p.Forms[4].B = n }, 0, 0},
	{"a unit's A", func(p *api.Program, n int) { p.Forms[5].A = n }, 0, 0},
	{"a unit's B", func(p *api.Program, n int) { p.Forms[5].B = n }, 0, 0},
	{"a str's A", func(p *api.Program, n int) { p.Forms[6].A = n }, 0, 0},
	{"a str's B", func(p *api.Program, n int) { p.Forms[6].B = n }, 0, 0},
	{"the kind of a form of nothing but 0", func(p *api.Program, n int) { p.Forms[0].Kind = n }, 1, 6},
	{"the kind of a form with A and B", func(p *api.Program, n int) { p.Forms[1].Kind = n }, 5, 5},
	{"the kind of a form with A", func(p *api.Program, n int) { p.Forms[3].Kind = n }, 5, 6},
	{"the kind of a form with Cons", func(p *api.Program, n int) { p.Forms[2].Kind = n }, 7, 7},
	{"the kind of the last form", func(p *api.Program, n int) { p.Forms[6].Kind = n }, 1, 6},
}

// counts are the limits of how many there are.
var counts = []limit{
	{"Funcs", func(p *api.Program, n int) {
		p.Funcs = slices.Repeat([]api.Func{{Locals: 1, Code: []api.Ins{{Op: api.ORet}}}}, n)
	}, 1, 60},
	{"Strs", func(p *api.Program, n int) { p.Strs = slices.Repeat([]string{"ab"}, n) }, 0, 40},
	{"Forms", func(p *api.Program, n int) { p.Forms = slices.Repeat([]api.Form{{Kind: api.FStr}}, n) }, 0, 40},
	{"the first one's Code", func(p *api.Program, n int) { p.Funcs[0].Code = slices.Repeat([]api.Ins{{Op: api.OCall}}, n) }, 1, 600},
	{"the second one's Code", func(p *api.Program, n int) { p.Funcs[1].Code = slices.Repeat([]api.Ins{{Op: api.OSet, A: 59}}, n) }, 1, 600},
	{"the last one's Code", func(p *api.Program, n int) { p.Funcs[2].Code = slices.Repeat([]api.Ins{{Op: api.OPop}}, n) }, 1, 600},
	{"the first Str's bytes", func(p *api.Program, n int) { p.Strs[0] = strings.Repeat("\xfe", n) }, 0, 60},
	{"the last Str's bytes", func(p *api.Program, n int) { p.Strs[2] = strings.Repeat("\x00", n) }, 0, 60},
	{"the Cons", func(p *api.Program, n int) { p.Forms[2].Cons = slices.Repeat([]int{-1}, n) }, 1, 20},
	{"an int's Cons", func(p *api.Program, n int) { p.Forms[0].Cons = make([]int, n) }, 0, 0},
	{"a pair's Cons", func(p *api.Program, n int) { p.Forms[1].Cons = slices.Repeat([]int{-1}, n) }, 0, 0},
	{"a list's Cons", func(p *api.Program, n int) { p.Forms[3].Cons = make([]int, n) }, 0, 0},
	{"a bool's Cons", func(p *api.Program, n int) { p.Forms[4].Cons = slices.Repeat([]int{-1}, n) }, 0, 0},
	{"a unit's Cons", func(p *api.Program, n int) { p.Forms[5].Cons = make([]int, n) }, 0, 0},
	{"a str's Cons", func(p *api.Program, n int) { p.Forms[6].Cons = slices.Repeat([]int{-1}, n) }, 0, 0},
}

// keeps expects of the program with each of those numbers that it may be just where the limit says so.
func (l limit) keeps(t *testing.T, all []int) {
	t.Helper()
	for _, n := range all {
		p := rich()
		l.set(&p, n)
		if l.least <= n && n <= l.greatest {
			mayBe(t, p)
		} else {
			mayNotBe(t, p)
		}
		if t.Failed() {
			t.Fatalf("%s, %d", l.name, n)
		}
	}
}

func TestNumbers(t *testing.T) {
	for _, l := range numbers {
		l.keeps(t, edges)
	}
}

func TestCounts(t *testing.T) {
	var few []int
	for n := range 70 {
		few = append(few, n)
	}
	for _, l := range counts {
		l.keeps(t, append(few, 127, 128, 129, 254, 255, 256, 257, 276, 296, 297, 316, 511, 512, 599, 600, 601, 855, 856, 1000, 65535, 65536, 65537, 65536+600, 1<<20))
	}
}

func TestFormsThatFormsLeadTo(t *testing.T) {
	for n := 1; n <= 40; n++ {
		with := func(f api.Form) api.Program {
			p := of(api.Ins{Op: api.ORet})
			p.Forms = append(slices.Repeat([]api.Form{{Kind: api.FInt}}, n-1), f)
			return p
		}
		mayBe(t, with(api.Form{Kind: api.FPair, A: n - 1, B: n - 1})) // to itself, too
		mayBe(t, with(api.Form{Kind: api.FList, A: n - 1}))
		mayBe(t, with(api.Form{Kind: api.FData, Cons: []int{-1, n - 1, 0}}))
		for _, beyond := range []int{n, n + 1, 40, 41, 254, 255, 256, -2, math.MinInt, math.MaxInt} {
			mayNotBe(t, with(api.Form{Kind: api.FPair, A: beyond}))
			mayNotBe(t, with(api.Form{Kind: api.FPair, B: beyond}))
			mayNotBe(t, with(api.Form{Kind: api.FList, A: beyond}))
			mayNotBe(t, with(api.Form{Kind: api.FData, Cons: []int{beyond}}))
			mayNotBe(t, with(api.Form{Kind: api.FData, Cons: []int{-1, 0, beyond, 0}}))
		}
		mayNotBe(t, with(api.Form{Kind: api.FPair, A: -1})) // that there is nothing, Cons alone tell
		mayNotBe(t, with(api.Form{Kind: api.FPair, B: -1}))
		mayNotBe(t, with(api.Form{Kind: api.FList, A: -1}))
	}
}

func TestLeastAndGreatest(t *testing.T) {
	mayNotBe(t, api.Program{})
	mayNotBe(t, api.Program{Funcs: []api.Func{{}}})
	mayNotBe(t, api.Program{Strs: []string{""}, Forms: []api.Form{{Kind: api.FInt}}})
	if b := mayBe(t, of(api.Ins{Op: api.ORet})); len(b) != 8 {
		t.Errorf("the least: %d bytes", len(b))
	}
	p := greatest()
	b := mayBe(t, p)
	if len(b) != 3+60*(4+600*9)+40*61+40*24 {
		t.Errorf("the greatest: %d bytes", len(b))
	}
	noProgram(t, b[:len(b)-1])
	noProgram(t, append(b, 0))
}

// What a text, a form, a local, a place is that an instruction speaks of, is not looked at: layer 8 does.
func TestWhatLayer8LooksAt(t *testing.T) {
	for _, i := range []api.Ins{{Op: api.OStr, A: 39}, {Op: api.OLocal, A: 59}, {Op: api.OSet, A: 59}, {Op: api.OEnv, A: 29}, {Op: api.OClose, A: 59, B: 30}, {Op: api.OJump, A: 599}, {Op: api.OJumpZ, A: 599}, {Op: api.OTry, A: 599}, {Op: api.OHost, A: api.HRecv, B: 39}, {Op: api.OPop}} {
		mayBe(t, of(i))
	}
}

func TestTexts(t *testing.T) {
	for _, s := range []string{"", " ", "\x00", "\xff", "ä", "日本", "\xc3", "a\nb", strings.Repeat("日", 20), strings.Repeat("\xff", 60)} {
		p := of(api.Ins{Op: api.ORet})
		p.Strs = []string{s, "", s}
		mayBe(t, p)
	}
	for _, s := range []string{strings.Repeat("日", 20) + "x", strings.Repeat("日", 21), strings.Repeat("ä", 31)} {
		p := of(api.Ins{Op: api.ORet})
		p.Strs = []string{s}
		mayNotBe(t, p)
	}
}

func TestBytesOfATextThatAreNotAsManyAsToldAhead(t *testing.T) {
	for _, long := range []int{0, 1, 59, 60} {
		p := of(api.Ins{Op: api.ORet})
		p.Strs = []string{strings.Repeat("x", long)}
		for n := range 256 {
			b := plain(p)
			b[8] = byte(n)
			if asTold(t, b) != (n == long) {
				t.Errorf("%d bytes, and %d told ahead", long, n)
			}
		}
	}
	for n := 61; n < 256; n++ {
		noProgram(t, slices.Concat(unhex(t, "01 01 00  00 00 0001 09"), []byte{byte(n)}, make([]byte, n)))
	}
}

func TestBytesThatAreCutOff(t *testing.T) {
	for _, p := range []api.Program{of(api.Ins{Op: api.ORet}), of(api.Ins{Op: api.OInt, A: 1}, api.Ins{Op: api.ORet}), rich(), eachOp()} {
		b := plain(p)
		for n := range b {
			noProgram(t, b[:n])
			noProgram(t, slices.Clip(b[:n]))
		}
	}
}

func TestBytesWithMoreBehind(t *testing.T) {
	for _, p := range []api.Program{of(api.Ins{Op: api.ORet}), rich(), eachOp()} {
		for x := range 256 {
			noProgram(t, append(plain(p), byte(x)))
		}
		noProgram(t, append(plain(p), plain(p)...))
		noProgram(t, append(plain(p), make([]byte, 1000)...))
	}
}

func TestBytesThatAreChanged(t *testing.T) {
	for _, p := range []api.Program{of(api.Ins{Op: api.OInt, A: 1}, api.Ins{Op: api.ORet}), rich(), eachOp()} {
		b := plain(p)
		for k := range b {
			for x := range 256 {
				c := bytes.Clone(b)
				c[k] = byte(x)
				if !asTold(t, c) && c[k] == b[k] {
					t.Errorf("Decode(%s): none", few(b))
				}
			}
		}
	}
}

func TestBytesThatAreLaidInAndLeftOut(t *testing.T) {
	b := plain(rich())
	for k := range b {
		asTold(t, slices.Delete(bytes.Clone(b), k, k+1))
		for x := range 256 {
			asTold(t, slices.Insert(bytes.Clone(b), k, byte(x)))
		}
	}
}

func TestEachConstructorsByte(t *testing.T) {
	p := of(api.Ins{Op: api.ORet})
	p.Forms = append(slices.Repeat([]api.Form{{Kind: api.FInt}}, 39), api.Form{Kind: api.FData, Cons: []int{0}})
	for n := range 256 {
		b := plain(p)
		b[len(b)-1] = byte(n)
		if asTold(t, b) != (n < 40 || n == 255) {
			t.Errorf("constructor %d", n)
		}
	}
}

func TestNoBytes(t *testing.T) {
	noProgram(t, nil)
	noProgram(t, []byte{})
	for n := range 20 {
		for _, x := range []byte{0, 1, 9, 127, 128, 255} {
			noProgram(t, bytes.Repeat([]byte{x}, n))
		}
	}
	for _, x := range []byte{0, 1, 9, 60, 255} {
		noProgram(t, bytes.Repeat([]byte{x}, 1<<22))
	}
	// as many functions as a byte tells, each as long as two bytes tell
	b := []byte{255, 255, 255}
	for range 255 {
		b = append(b, 1, 0, 255, 255)
		b = append(b, bytes.Repeat([]byte{api.ORet}, 65535)...)
	}
	noProgram(t, b)
}

// What is told ahead may not make a stranger's bytes take more room than a program.
func TestRoomThatBytesTake(t *testing.T) {
	b := []byte{60, 0, 0}
	for range 60 {
		b = append(b, 1, 0, 255, 255)
		b = append(b, bytes.Repeat([]byte{api.ORet}, 65535)...)
	}
	var before, after runtime.MemStats
	runtime.ReadMemStats(&before)
	_, ok := code.Decode(b)
	runtime.ReadMemStats(&after)
	if took := after.TotalAlloc - before.TotalAlloc; ok || took > 1<<24 {
		t.Errorf("%t, with %d bytes", ok, took)
	}
}

func TestEachRowOfFewBytes(t *testing.T) {
	for x := range 1 << 16 {
		noProgram(t, []byte{byte(x >> 8), byte(x)})
		noProgram(t, []byte{1, byte(x >> 8), byte(x)})
	}
	taken := 0
	for x := range 1 << 16 {
		if asTold(t, []byte{1, 0, 0, byte(x >> 8), 0, 0, 1, byte(x)}) {
			taken++
		}
	}
	if taken != 61*24 { // Locals, and the Ops that have nothing
		t.Errorf("%d of eight bytes", taken)
	}
}

func TestBytesByChance(t *testing.T) {
	r := rand.New(rand.NewSource(7))
	all := [][]byte{plain(rich()), plain(eachOp()), plain(of(api.Ins{Op: api.ORet}))}
	for range 60000 {
		b := bytes.Clone(all[r.Intn(len(all))])
		for range 1 + r.Intn(4) {
			k := r.Intn(len(b))
			switch r.Intn(4) {
			case 0:
				b[k] ^= 1 << r.Intn(8)
			case 1:
				b[k] = byte(r.Intn(256))
			case 2:
				b = slices.Insert(b, k, byte(r.Intn(256)))
			case 3:
				b = append(slices.Delete(b, k, k+1), byte(r.Intn(40)))
			}
		}
		asTold(t, b)
	}
}

func TestNilAndEmptyAreOne(t *testing.T) {
	p := of(api.Ins{Op: api.ORet})
	p.Forms = []api.Form{{Kind: api.FInt}}
	q := copied(p)
	q.Strs = []string{}
	q.Forms[0].Cons = []int{}
	if b, c := mayBe(t, p), mayBe(t, q); !bytes.Equal(b, c) {
		t.Errorf("%x and %x", b, c)
	}
	mayNotBe(t, api.Program{Funcs: []api.Func{}, Strs: []string{}, Forms: []api.Form{}})
	mayNotBe(t, api.Program{Funcs: []api.Func{{Code: []api.Ins{}}}})
	q = rich()
	q.Forms[2].Cons = []int{}
	mayNotBe(t, q)
}

// fill overwrites all of the list, and its room behind.
func fill[T any](l []T, x T) {
	l = l[:cap(l)]
	for i := range l {
		l[i] = x
	}
}

// spoil overwrites all that the program has, and the room behind it.
func spoil(p api.Program) {
	for _, f := range p.Funcs {
		fill(f.Code, api.Ins{Op: 99, A: 99, B: 99})
	}
	for _, f := range p.Forms {
		fill(f.Cons, 99)
	}
	fill(p.Funcs, api.Func{Locals: 99})
	fill(p.Strs, "spoilt")
	fill(p.Forms, api.Form{Kind: 99})
}

func TestAnswersShareNothing(t *testing.T) {
	for _, want := range []api.Program{rich(), eachOp()} {
		b := plain(want)
		p, _ := code.Decode(b)
		q, _ := code.Decode(b)
		fill(b, 0xee)
		if !equal(p, want) || !equal(q, want) {
			t.Error("Decode keeps the bytes")
		}
		spoil(p)
		if !equal(q, want) {
			t.Error("two answers of Decode share something")
		}
		for k := range q.Funcs {
			fill(q.Funcs[k].Code, api.Ins{Op: 99})
			q.Funcs[k].Code = want.Funcs[k].Code
			if !equal(q, want) {
				t.Errorf("function %d's code shares something", k)
			}
		}
		for k := range q.Forms {
			fill(q.Forms[k].Cons, 99)
			q.Forms[k].Cons = want.Forms[k].Cons
			if !equal(q, want) {
				t.Errorf("form %d's constructors share something", k)
			}
		}
		arg := copied(want)
		c, _ := code.Encode(arg)
		d, _ := code.Encode(arg)
		fill(c, 0xee)
		spoil(arg)
		if !bytes.Equal(d, plain(want)) {
			t.Error("answers of Encode share something")
		}
	}
}

func TestRoomBehindArgumentsStays(t *testing.T) {
	p := rich()
	ins := append(p.Funcs[0].Code, api.Ins{Op: 77}, api.Ins{Op: 78})
	cons := append(p.Forms[2].Cons, 77, 78)
	funcs := append(p.Funcs, api.Func{Locals: 77})
	strs := append(p.Strs, "behind")
	forms := append(p.Forms, api.Form{Kind: 77})
	p.Funcs, p.Strs, p.Forms = funcs[:3], strs[:3], forms[:7]
	p.Funcs[0].Code, p.Forms[2].Cons = ins[:5], cons[:3]
	b := append(mayBe(t, p), 77, 78)
	mayBe(t, p)
	if _, ok := code.Decode(b[: len(b)-2 : len(b)]); !ok {
		t.Error("Decode: false")
	}
	if ins[5].Op != 77 || ins[6].Op != 78 || cons[3] != 77 || cons[4] != 78 || funcs[3].Locals != 77 || strs[3] != "behind" || forms[7].Kind != 77 || b[len(b)-2] != 77 || b[len(b)-1] != 78 {
		t.Error("what stood behind is changed")
	}
}

// P7.2

func TestEachProgramHasItsOwnBytes(t *testing.T) {
	whose := map[string]api.Program{}
	add := func(p api.Program) {
		if !code.Good(p) {
			return
		}
		b := string(mayBe(t, p))
		if q, there := whose[b]; there && !equal(p, q) {
			t.Errorf("%s and %s have the bytes %s", short(p), short(q), few([]byte(b)))
		}
		whose[b] = p
	}
	for _, l := range slices.Concat(numbers, counts) {
		for n := range 62 {
			p := rich()
			l.set(&p, n)
			add(p)
		}
	}
	for _, x := range table {
		for _, a := range x.a {
			for _, b := range x.b {
				add(of(api.Ins{Op: x.op, A: a, B: b}))
				add(of(api.Ins{Op: x.op, A: a, B: b}, api.Ins{Op: x.op, A: a, B: b}))
			}
		}
	}
	if len(whose) < 400 {
		t.Errorf("%d programs alone", len(whose))
	}
}

// within is any number from the least to the greatest.
func within(r *rand.Rand, l [2]int) int {
	if l == any63 {
		return int(r.Uint64()) >> 1
	}
	return l[0] + r.Intn(1+l[1]-l[0])
}

// chance is a program that may be, of any.
func chance(r *rand.Rand) api.Program {
	var p api.Program
	for i := range 1 + r.Intn(5) {
		f := api.Func{Locals: 1 + r.Intn(60), Free: r.Intn(31)}
		if i == 0 {
			f.Locals, f.Free = r.Intn(61), 0
		}
		for range 1 + r.Intn(20) {
			x := table[r.Intn(len(table))]
			f.Code = append(f.Code, api.Ins{Op: x.op, A: within(r, x.a), B: within(r, x.b)})
		}
		p.Funcs = append(p.Funcs, f)
	}
	for range r.Intn(5) {
		b := make([]byte, r.Intn(61))
		r.Read(b)
		p.Strs = append(p.Strs, string(b))
	}
	forms := r.Intn(8)
	for range forms {
		f := api.Form{Kind: 1 + r.Intn(7)}
		switch f.Kind {
		case api.FPair:
			f.A, f.B = r.Intn(forms), r.Intn(forms)
		case api.FList:
			f.A = r.Intn(forms)
		case api.FData:
			for range 1 + r.Intn(20) {
				f.Cons = append(f.Cons, r.Intn(forms+1)-1)
			}
		}
		p.Forms = append(p.Forms, f)
	}
	return p
}

func TestThereAndBack(t *testing.T) {
	r := rand.New(rand.NewSource(72))
	for range 3000 {
		mayBe(t, chance(r))
	}
}
