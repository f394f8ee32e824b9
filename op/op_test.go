package op_test

import (
	"math"
	"strings"
	"testing"

	"stockpot/api"
	"stockpot/op"
)

// told is what the document's table tells of an instruction: its Op (of OHost its A, too), name, the least and the last A and B, what it takes and leaves, whether it ends.
type told struct {
	op            int
	name          string
	a, b          [2]int
	takes, leaves int
	ends          bool
}

// byB stands for what an instruction takes that takes as many as its B tells.
const byB = -1

var (
	nothing = [2]int{0, 0}
	any63   = [2]int{-4611686018427387904, 4611686018427387903}
)

// table is the document's, in the order of api's Ops, written with numbers: the limits as api has them are 40 texts, 60 locals, 30 captured, 60 functions, 600 instructions, tags up to 255, 8 fields, 40 forms.
var table = []told{
	{0, "int", any63, nothing, 0, 1, false},
	{1, "str", [2]int{0, 39}, nothing, 0, 1, false},
	{2, "local", [2]int{0, 59}, nothing, 0, 1, false},
	{3, "set", [2]int{0, 59}, nothing, 1, 0, false},
	{4, "env", [2]int{0, 29}, nothing, 0, 1, false},
	{5, "self", nothing, nothing, 0, 1, false},
	{6, "close", [2]int{1, 59}, [2]int{0, 30}, byB, 1, false},
	{7, "call", nothing, nothing, 2, 1, false},
	{8, "tail", nothing, nothing, 2, 0, true},
	{9, "ret", nothing, nothing, 1, 0, true},
	{10, "jump", [2]int{0, 599}, nothing, 0, 0, true},
	{11, "jumpz", [2]int{0, 599}, nothing, 1, 0, false},
	{12, "add", nothing, nothing, 2, 1, false},
	{13, "sub", nothing, nothing, 2, 1, false},
	{14, "mul", nothing, nothing, 2, 1, false},
	{15, "div", nothing, nothing, 2, 1, false},
	{16, "mod", nothing, nothing, 2, 1, false},
	{17, "eq", nothing, nothing, 2, 1, false},
	{18, "less", nothing, nothing, 2, 1, false},
	{19, "block", [2]int{0, 255}, [2]int{1, 8}, byB, 1, false},
	{20, "field", [2]int{0, 7}, nothing, 1, 1, false},
	{21, "isint", any63, nothing, 1, 1, false},
	{22, "istag", [2]int{0, 255}, nothing, 1, 1, false},
	{23, "store", nothing, nothing, 2, 1, false},
	{24, "array", nothing, nothing, 2, 1, false},
	{25, "get", nothing, nothing, 2, 1, false},
	{26, "put", nothing, nothing, 3, 1, false},
	{27, "len", nothing, nothing, 1, 1, false},
	{28, "cat", nothing, nothing, 2, 1, false},
	{29, "size", nothing, nothing, 1, 1, false},
	{30, "byte", nothing, nothing, 2, 1, false},
	{31, "text", nothing, nothing, 1, 1, false},
	{32, "same", nothing, nothing, 2, 1, false},
	{33, "try", [2]int{0, 599}, nothing, 0, 0, false},
	{34, "untry", nothing, nothing, 0, 0, false},
	{35, "raise", nothing, nothing, 1, 0, true},
	{36, "host", [2]int{0, 0}, nothing, 1, 1, false},       // emit
	{36, "host", [2]int{1, 1}, nothing, 1, 1, false},       // log
	{36, "host", [2]int{2, 2}, nothing, 2, 1, false},       // send
	{36, "host", [2]int{3, 3}, [2]int{0, 39}, 0, 1, false}, // recv
	{37, "pop", nothing, nothing, 1, 0, false},
}

// others are numbers that are no Op.
var others = []int{math.MinInt, math.MinInt + 1, -1 << 62, -1 << 32, -1 << 31, -257, -256, -39, -38, -2, -1, 38, 39, 63, 64, 255, 256, 256 + 9, 1 << 16, 1<<31 - 1, 1 << 31, 1 << 32, 1<<32 + 9, 1 << 62, math.MaxInt - 1, math.MaxInt}

// edges are numbers at which a limit, a sign or a cut is easily told wrong.
var edges = func() []int {
	l := []int{math.MinInt, math.MinInt + 1, -1<<62 - 1, -1 << 62, -1<<62 + 1, -1 << 32, -1 << 31, -256, 1<<31 - 1, 1 << 31, 1 << 32, 1<<32 + 1, 1<<62 - 2, 1<<62 - 1, 1 << 62, 1<<62 + 1, math.MaxInt - 1, math.MaxInt}
	for n := -3; n <= 602; n++ {
		l = append(l, n)
	}
	return l
}()

// fewEdges are those of the edges that are near a limit of any B, and some beyond.
var fewEdges = []int{math.MinInt, -1 << 62, -1 << 32, -2, -1, 0, 1, 2, 3, 7, 8, 9, 10, 29, 30, 31, 38, 39, 40, 41, 59, 60, 255, 256, 257, 1 << 32, 1<<32 + 1, 1 << 62, math.MaxInt}

// tells is what the table tells of the instruction, nil if it may not be.
func tells(i api.Ins) *told {
	for k := range table {
		x := &table[k]
		if x.op == i.Op && x.a[0] <= i.A && i.A <= x.a[1] && x.b[0] <= i.B && i.B <= x.b[1] {
			return x
		}
	}
	return nil
}

// mayBe expects that the instruction may be, and takes and leaves so many.
func mayBe(t *testing.T, i api.Ins, takes, leaves int) {
	t.Helper()
	if !op.Good(i) {
		t.Errorf("Good(%v): false", i)
	}
	if n, m, ok := op.Effect(i); !ok || n != takes || m != leaves {
		t.Errorf("Effect(%v) = %d, %d, %t, want %d, %d", i, n, m, ok, takes, leaves)
	}
}

// mayNotBe expects that the instruction may not be.
func mayNotBe(t *testing.T, i api.Ins) {
	t.Helper()
	if op.Good(i) {
		t.Errorf("Good(%v): true", i)
	}
	if n, m, ok := op.Effect(i); ok || n != 0 || m != 0 {
		t.Errorf("Effect(%v) = %d, %d, %t, want none", i, n, m, ok)
	}
}

// asTold expects of the instruction what the table tells.
func asTold(t *testing.T, i api.Ins) {
	t.Helper()
	x := tells(i)
	switch {
	case x == nil:
		mayNotBe(t, i)
	case x.takes == byB:
		mayBe(t, i, i.B, x.leaves)
	default:
		mayBe(t, i, x.takes, x.leaves)
	}
}

// noName expects that no Op has that name.
func noName(t *testing.T, name string) {
	t.Helper()
	if k, ok := op.Of(name); ok || k != 0 {
		t.Errorf("Of(%q) = %d, %t, want none", name, k, ok)
	}
}

// names is the Op of each name, as the table tells.
func names() map[string]int {
	m := map[string]int{}
	for _, x := range table {
		m[x.name] = x.op
	}
	return m
}

// P6.1

func TestTheTableTellsOfEachOp(t *testing.T) {
	if n := len(names()); n != api.Ops {
		t.Fatalf("%d names, and %d Ops", n, api.Ops)
	}
}

func TestNames(t *testing.T) {
	for _, x := range table {
		if s := op.Name(x.op); s != x.name {
			t.Errorf("Name(%d) = %q, want %q", x.op, s, x.name)
		}
		if k, ok := op.Of(x.name); !ok || k != x.op {
			t.Errorf("Of(%q) = %d, %t, want %d", x.name, k, ok, x.op)
		}
	}
}

func TestNamesOfWhatIsNoOp(t *testing.T) {
	for _, k := range others {
		if s := op.Name(k); s != "" {
			t.Errorf("Name(%d) = %q, want none", k, s)
		}
	}
	for k := -1000; k < 2000; k++ {
		if s := op.Name(k); (s != "") != (k >= 0 && k < 38) {
			t.Errorf("Name(%d) = %q", k, s)
		}
	}
}

func TestOfNearlyAName(t *testing.T) {
	all := names()
	near := func(s string) {
		if _, there := all[s]; !there {
			noName(t, s)
		}
	}
	for s := range all {
		near(strings.ToUpper(s))
		near(strings.ToUpper(s[:1]) + s[1:])
		near(strings.Repeat(s, 2))
		for i := range len(s) + 1 {
			near(s[:i])
			near(s[i:])
			for b := range 256 {
				near(s[:i] + string([]byte{byte(b)}) + s[i:])
				if i < len(s) {
					near(s[:i] + string([]byte{byte(b)}) + s[i+1:])
				}
			}
			if i < len(s) {
				near(s[:i] + s[i+1:])
			}
		}
	}
}

func TestOfWhatIsNoName(t *testing.T) {
	for _, s := range []string{"", " ", "\x00", "\xff", "0", "6", "-1", "nop", "OInt", "Int", "INT", "o", "not", "and", "or", "emit", "log", "send", "recv", "push", "drop", "dup", "jumpnz", "tail call", "intstr", "ïnt", "int\n", strings.Repeat("int", 1<<20)} {
		noName(t, s)
	}
}

func TestOfEachShortName(t *testing.T) {
	all := names()
	var from func(s string)
	from = func(s string) {
		want, there := all[s]
		if k, ok := op.Of(s); ok != there || k != want {
			t.Errorf("Of(%q) = %d, %t", s, k, ok)
		}
		if len(s) == 4 {
			return
		}
		for b := 'a'; b <= 'z'; b++ {
			from(s + string(b))
		}
	}
	from("")
}

func TestLeastAndGreatestOfEachOp(t *testing.T) {
	for _, x := range table {
		for _, a := range x.a {
			for _, b := range x.b {
				takes := x.takes
				if takes == byB {
					takes = b
				}
				mayBe(t, api.Ins{Op: x.op, A: a, B: b}, takes, x.leaves)
				mayNotBe(t, api.Ins{Op: x.op, A: a, B: x.b[0] - 1})
				mayNotBe(t, api.Ins{Op: x.op, A: a, B: x.b[1] + 1})
				if x.op != api.OHost {
					mayNotBe(t, api.Ins{Op: x.op, A: x.a[0] - 1, B: b})
					mayNotBe(t, api.Ins{Op: x.op, A: x.a[1] + 1, B: b})
				}
			}
		}
	}
}

func TestEachOpWithEachA(t *testing.T) {
	for k := range api.Ops {
		for _, a := range edges {
			for _, b := range fewEdges {
				asTold(t, api.Ins{Op: k, A: a, B: b})
			}
		}
	}
}

func TestEachOpWithEachB(t *testing.T) {
	for k := range api.Ops {
		for _, a := range fewEdges {
			for _, b := range edges {
				asTold(t, api.Ins{Op: k, A: a, B: b})
			}
		}
	}
}

func TestNumbersOf63Bits(t *testing.T) {
	for k, takes := range map[int]int{api.OInt: 0, api.OIsInt: 1} {
		for _, a := range []int{-1 << 62, -1<<62 + 1, -1, 0, 1, 1<<62 - 2, 1<<62 - 1} {
			mayBe(t, api.Ins{Op: k, A: a}, takes, 1)
			mayNotBe(t, api.Ins{Op: k, A: a, B: 1})
			mayNotBe(t, api.Ins{Op: k, A: a, B: -1})
		}
		for _, a := range []int{math.MinInt, -1<<62 - 2, -1<<62 - 1, 1 << 62, 1<<62 + 1, math.MaxInt} {
			mayNotBe(t, api.Ins{Op: k, A: a})
		}
	}
}

func TestWhatTakesItsB(t *testing.T) {
	mayBe(t, api.Ins{Op: api.OClose, A: 2, B: 3}, 3, 1) // the chapter's example
	for b := range api.MaxFree + 1 {
		mayBe(t, api.Ins{Op: api.OClose, A: 1, B: b}, b, 1)
		mayBe(t, api.Ins{Op: api.OClose, A: api.MaxFuncs - 1, B: b}, b, 1)
		mayNotBe(t, api.Ins{Op: api.OClose, A: 0, B: b}) // function 0 is begun with, and no closure's
		mayNotBe(t, api.Ins{Op: api.OClose, A: api.MaxFuncs, B: b})
	}
	for b := 1; b <= api.MaxSize; b++ {
		mayBe(t, api.Ins{Op: api.OBlock, B: b}, b, 1)
		mayBe(t, api.Ins{Op: api.OBlock, A: api.MaxTag, B: b}, b, 1)
		mayNotBe(t, api.Ins{Op: api.OBlock, A: -1, B: b})
		mayNotBe(t, api.Ins{Op: api.OBlock, A: api.MaxTag + 1, B: b})
	}
	for _, b := range []int{math.MinInt, -1, api.MaxFree + 1, 1 << 32, math.MaxInt} {
		mayNotBe(t, api.Ins{Op: api.OClose, A: 1, B: b})
	}
	for _, b := range []int{math.MinInt, -1, 0, api.MaxSize + 1, 1 << 32, math.MaxInt} {
		mayNotBe(t, api.Ins{Op: api.OBlock, A: 1, B: b})
	}
}

func TestEachHost(t *testing.T) {
	for call, takes := range []int{api.HEmit: 1, api.HLog: 1, api.HSend: 2} {
		mayBe(t, api.Ins{Op: api.OHost, A: call}, takes, 1)
		for _, b := range fewEdges {
			if b != 0 {
				mayNotBe(t, api.Ins{Op: api.OHost, A: call, B: b})
			}
		}
	}
	for b := range api.MaxForms {
		mayBe(t, api.Ins{Op: api.OHost, A: api.HRecv, B: b}, 0, 1)
	}
	for _, b := range []int{math.MinInt, -2, -1, api.MaxForms, api.MaxForms + 1, 1 << 32, math.MaxInt} {
		mayNotBe(t, api.Ins{Op: api.OHost, A: api.HRecv, B: b})
	}
	for _, call := range []int{math.MinInt, -1 << 32, -2, -1, api.Hosts, api.Hosts + 1, 1 << 32, 1<<32 + 1, math.MaxInt} {
		for _, b := range []int{-1, 0, 1, 39} {
			mayNotBe(t, api.Ins{Op: api.OHost, A: call, B: b})
		}
	}
}

func TestWhatIsNoOpMayNotBe(t *testing.T) {
	for _, k := range others {
		for _, a := range []int{-1, 0, 1, 2} {
			for _, b := range []int{-1, 0, 1, 2} {
				mayNotBe(t, api.Ins{Op: k, A: a, B: b})
			}
		}
	}
}

func TestEnds(t *testing.T) {
	for _, x := range table {
		for _, a := range x.a {
			for _, b := range x.b {
				i := api.Ins{Op: x.op, A: a, B: b}
				if op.Ends(i) != x.ends {
					t.Errorf("Ends(%v): %t", i, !x.ends)
				}
			}
		}
	}
	for _, a := range edges {
		if !op.Ends(api.Ins{Op: api.OJump, A: a}) || op.Ends(api.Ins{Op: api.OJumpZ, A: a}) || op.Ends(api.Ins{Op: api.OHost, A: a}) {
			t.Errorf("Ends tells otherwise with A %d", a)
		}
	}
	for _, k := range others {
		if op.Ends(api.Ins{Op: k}) {
			t.Errorf("Ends of Op %d: true", k)
		}
	}
}

// P6.2

func TestEachOpHasOneName(t *testing.T) {
	whose := map[string]int{}
	for k := range api.Ops {
		s := op.Name(k)
		if s == "" {
			t.Errorf("Op %d has no name", k)
		}
		if other, there := whose[s]; there {
			t.Errorf("Ops %d and %d have the name %q", other, k, s)
		}
		whose[s] = k
		if back, ok := op.Of(s); !ok || back != k {
			t.Errorf("Of(Name(%d)) = %d, %t", k, back, ok)
		}
	}
}
