package data_test

import (
	"math"
	"math/rand"
	"slices"
	"strings"
	"testing"

	"stockpot/api"
	"stockpot/data"
)

// P10.2: Fits

// fits expects of a message whether it fits form k, and that nothing that is handed in changes.
func fits(t *testing.T, f []api.Form, k int, m api.Message, want bool) {
	t.Helper()
	given := handed(m)
	forms := make([]api.Form, len(f), len(f)+1)
	for i := range f {
		forms[i] = f[i]
		forms[i].Cons = append(slices.Clone(f[i].Cons), 77)[:len(f[i].Cons)]
	}
	if data.Fits(forms, k, given) != want {
		t.Errorf("Fits(%v, %d, %v) = %t", f, k, m, !want)
	}
	kept(t, given, m)
	for i, g := range forms {
		if g.Kind != f[i].Kind || g.A != f[i].A || g.B != f[i].B || !slices.Equal(g.Cons, f[i].Cons) || g.Cons[:len(g.Cons)+1][len(g.Cons)] != 77 {
			t.Errorf("form %d is now %v, it was %v", i, g, f[i])
		}
	}
	if more := forms[:len(f)+1][len(f)]; more.Kind != 0 || more.A != 0 || more.B != 0 || more.Cons != nil {
		t.Errorf("behind the forms stands %v", more)
	}
}

// of is the message of a block with those wholes.
func of(tag int, wholes ...api.Message) api.Message {
	return append(api.Message{block(tag, int64(len(wholes)))}, slices.Concat(wholes...)...)
}

// number is the message of a number.
func number(v int64) api.Message { return api.Message{num(v)} }

// text is the message of a text.
func text(bytes string) api.Message { return api.Message{str(bytes)} }

func TestFitsFormsWithoutForms(t *testing.T) {
	f := everyForm()
	for _, v := range []int64{least, -1 << 32, -2, -1, 0, 1, 2, 3, 255, 1 << 32, 1<<32 + 1, most} {
		fits(t, f, 0, number(v), true)
		fits(t, f, 1, number(v), v == 0 || v == 1)
		fits(t, f, 2, number(v), v == 0)
		fits(t, f, 3, number(v), false)
	}
	for _, bytes := range []string{"", "0", "\x00", strings.Repeat("x", api.MaxBytes)} {
		for k := range 3 {
			fits(t, f, k, text(bytes), false)
		}
		fits(t, f, 3, text(bytes), true)
	}
	for _, m := range []api.Message{of(0, number(0)), of(1, number(1)), of(0, number(0), number(0)), of(0, text("")), of(0, text(""), text(""))} {
		for k := range 4 {
			fits(t, f, k, m, false)
		}
	}
}

func TestFitsPairs(t *testing.T) {
	f := []api.Form{{Kind: api.FPair, A: 1, B: 2}, {Kind: api.FInt}, {Kind: api.FStr}, {Kind: api.FPair, A: 0, B: 0}, {Kind: api.FPair, A: 4, B: 1}, {Kind: api.FPair, A: 1, B: 5}}
	pair := of(0, number(5), text("x"))
	fits(t, f, 0, pair, true)
	fits(t, f, 0, of(0, number(-5), text("")), true)
	fits(t, f, 3, of(0, pair, pair), true)
	for _, m := range []api.Message{
		of(1, number(5), text("x")), of(255, number(5), text("x")), of(0, text("x"), number(5)), of(0, number(5), number(5)), of(0, text("x"), text("x")),
		of(0, number(5)), of(0, number(5), text("x"), number(5)), of(0, number(5), text("x"), text("x")), of(0, of(0, number(5), text("x"))), of(0, pair, text("x")), of(0, number(5), pair), number(0), number(5), text("x"),
	} {
		fits(t, f, 0, m, false)
	}
	for _, m := range []api.Message{pair, of(0, pair, number(0)), of(0, number(0), pair), of(0, pair, of(1, number(5), text("x"))), of(0, of(0, text("x"), number(5)), pair), of(1, pair, pair), of(0, pair, pair, pair)} {
		fits(t, f, 3, m, false)
	}
	// those that hold themselves have no end
	left, right := number(0), number(0)
	for range 40 {
		fits(t, f, 4, left, false)
		fits(t, f, 5, right, false)
		left, right = of(0, left, number(0)), of(0, number(0), right)
	}
}

func TestFitsLists(t *testing.T) {
	f := []api.Form{{Kind: api.FList, A: 1}, {Kind: api.FStr}, {Kind: api.FList, A: 0}, {Kind: api.FList, A: 3}, {Kind: api.FList, A: 4}, {Kind: api.FInt}, {Kind: api.FList, A: 5}}
	list := func(items ...api.Message) api.Message {
		l := number(0)
		for _, m := range slices.Backward(items) {
			l = of(1, m, l)
		}
		return l
	}
	for _, m := range []api.Message{list(), list(text("")), list(text("a"), text("b")), list(slices.Repeat([]api.Message{text("x")}, 49)...)} {
		fits(t, f, 0, m, true)
		fits(t, f, 2, list(m), len(m)+2 <= api.MaxCells)
		fits(t, f, 1, m, false)
	}
	for _, m := range []api.Message{
		number(1), number(-1), number(1 << 32), text(""), list(number(1)), list(number(0)), list(text("a"), number(0)), list(list()), list(text("a"), list(text("b"))),
		of(1, text("a"), number(1)), of(1, text("a"), number(-1)), of(1, text("a"), text("b")), of(0, text("a"), number(0)), of(2, text("a"), number(0)), of(1, number(0), text("a")),
		of(1, text("a")), of(1, text("a"), number(0), number(0)), of(1, text("a"), of(0, text("b"), number(0))), of(1, text("a"), of(1, text("b"))), of(1, text("a"), of(1, text("b"), number(2))),
	} {
		fits(t, f, 0, m, false)
		fits(t, f, 2, list(list(text("a")), m), false)
	}
	for _, m := range []api.Message{list(), list(list()), list(list(), list(text("a"))), list(list(text("a"), text("b")), list(), list(text("c")))} {
		fits(t, f, 2, m, true)
	}
	fits(t, f, 2, list(text("a")), false)
	fits(t, f, 2, list(list(list())), false)
	// lists of such lists as they are themselves
	fits(t, f, 4, list(), true)
	fits(t, f, 4, list(list(), list(list(), list())), true)
	fits(t, f, 3, list(list(list(list())), list()), true)
	fits(t, f, 4, list(list(), list(list(), number(1))), false)
	fits(t, f, 4, list(list(), list(text("a"), list())), false)
	deep := number(0)
	for range 49 {
		deep = list(deep)
		fits(t, f, 4, deep, true)
	}
	fits(t, f, 6, list(slices.Repeat([]api.Message{number(8)}, 49)...), true)
	fits(t, f, 6, list(append(slices.Repeat([]api.Message{number(8)}, 48), text("8"))...), false)
	fits(t, f, 6, list(slices.Repeat([]api.Message{number(8)}, 50)...), false)
}

func TestFitsData(t *testing.T) {
	f := []api.Form{{Kind: api.FData, Cons: []int{-1, 1, -1, 0, 2}}, {Kind: api.FInt}, {Kind: api.FPair, A: 0, B: 3}, {Kind: api.FStr}}
	for v := int64(-3); v < 30; v++ {
		fits(t, f, 0, number(v), v == 0 || v == 2)
	}
	for _, v := range []int64{256, 258, 1 << 16, 1 << 32, 1<<32 + 2, -1 << 32, least, least + 2, most} {
		fits(t, f, 0, number(v), false)
	}
	pair := of(0, number(2), text("x"))
	for tag := range api.MaxTag + 1 {
		fits(t, f, 0, of(tag, number(0)), tag == 1 || tag == 3)
		fits(t, f, 0, of(tag, number(9)), tag == 1)
		fits(t, f, 0, of(tag, number(2)), tag == 1 || tag == 3)
		fits(t, f, 0, of(tag, text("")), false)
		fits(t, f, 0, of(tag, of(1, number(9))), tag == 3)
		fits(t, f, 0, of(tag, pair), tag == 4)
		fits(t, f, 0, of(tag, number(0), number(0)), false)
		fits(t, f, 0, of(tag, pair, pair), false)
		fits(t, f, 0, of(tag, number(0), number(0), number(0)), false)
	}
	for _, bytes := range []string{"", "0", "x"} {
		fits(t, f, 0, text(bytes), false)
	}
	fits(t, f, 0, of(4, of(0, of(4, pair), text("y"))), true)
	fits(t, f, 0, of(4, of(0, of(4, of(0, number(1), text("x"))), text("y"))), false)
	deep, wrong := number(2), number(1)
	for range api.MaxCells - 1 {
		deep, wrong = of(3, deep), of(3, wrong)
		fits(t, f, 0, deep, true)
		fits(t, f, 0, wrong, false)
	}
	fits(t, f, 0, of(3, deep), false)
}

func TestFitsManyConstructors(t *testing.T) {
	none, some := slices.Repeat([]int{-1}, 20), slices.Repeat([]int{2}, 20)
	f := []api.Form{{Kind: api.FData, Cons: none}, {Kind: api.FData, Cons: some}, {Kind: api.FUnit}, {Kind: api.FData, Cons: []int{-1}}, {Kind: api.FData, Cons: []int{2}}, {Kind: api.FData, Cons: []int{5}}}
	for v := -2; v < 25; v++ {
		is := v >= 0 && v < 20
		fits(t, f, 0, number(int64(v)), is)
		fits(t, f, 1, number(int64(v)), false)
		fits(t, f, 3, number(int64(v)), v == 0)
		fits(t, f, 4, number(int64(v)), false)
		fits(t, f, 5, number(int64(v)), false)
		if v < 0 {
			continue
		}
		fits(t, f, 0, of(v, number(0)), false)
		fits(t, f, 1, of(v, number(0)), is)
		fits(t, f, 1, of(v, number(1)), false)
		fits(t, f, 3, of(v, number(0)), false)
		fits(t, f, 4, of(v, number(0)), v == 0)
		fits(t, f, 5, of(v, number(0)), false)
		fits(t, f, 5, of(0, of(0, of(v, number(0)))), false)
	}
}

func TestFitsNoSuchForm(t *testing.T) {
	f := everyForm()
	for _, k := range []int{-1, -2, -len(f), len(f), len(f) + 1, 256, 1 << 32, 1<<32 + 3, -1 << 32, math.MaxInt, math.MinInt} {
		for _, m := range []api.Message{number(0), number(1), text(""), theList(), nil} {
			fits(t, f, k, m, false)
			fits(t, nil, k, m, false)
		}
	}
	fits(t, nil, 0, number(0), false)
	fits(t, []api.Form{}, 0, number(0), false)
}

func TestFitsFormsThatMayNotBe(t *testing.T) {
	wrong := []api.Form{
		{}, {Kind: -1}, {Kind: 8}, {Kind: 9}, {Kind: 257}, {Kind: 1<<32 + 1}, {Kind: math.MinInt + 1}, {Kind: math.MaxInt},
		{Kind: api.FPair, A: -1}, {Kind: api.FPair, B: -1}, {Kind: api.FPair, A: 2}, {Kind: api.FPair, B: 2}, {Kind: api.FPair, Cons: []int{0}}, {Kind: api.FPair, A: math.MinInt}, {Kind: api.FPair, B: 1 << 32},
		{Kind: api.FList, A: -1}, {Kind: api.FList, A: 2}, {Kind: api.FList, A: 1 << 32}, {Kind: api.FList, B: 1}, {Kind: api.FList, Cons: []int{0}},
		{Kind: api.FData}, {Kind: api.FData, Cons: []int{}}, {Kind: api.FData, Cons: []int{-2}}, {Kind: api.FData, Cons: []int{2}}, {Kind: api.FData, Cons: []int{-1, -1, 2}}, {Kind: api.FData, Cons: []int{1 << 32}},
		{Kind: api.FData, Cons: slices.Repeat([]int{-1}, 21)}, {Kind: api.FData, A: 1, Cons: []int{-1}}, {Kind: api.FData, B: 1, Cons: []int{-1}}, {Kind: api.FData, A: -1, Cons: []int{-1}},
	}
	for _, kind := range []int{api.FInt, api.FBool, api.FUnit, api.FStr} {
		wrong = append(wrong, api.Form{Kind: kind, A: 1}, api.Form{Kind: kind, A: -1}, api.Form{Kind: kind, B: 1}, api.Form{Kind: kind, B: -1}, api.Form{Kind: kind, Cons: []int{-1}})
	}
	messages := []api.Message{number(0), number(1), text(""), theList(), of(0, number(0), number(0)), of(0, number(0)), of(2, number(0))}
	for _, w := range wrong {
		for _, m := range messages {
			for _, f := range [][]api.Form{{w, {Kind: api.FInt}}, {{Kind: api.FInt}, w}, {w, w}} {
				fits(t, f, 0, m, false)
				fits(t, f, 1, m, false)
			}
		}
	}
}

func TestFitsAsManyFormsAsMayBe(t *testing.T) {
	f := slices.Repeat([]api.Form{{Kind: api.FInt}}, api.MaxForms)
	f[39] = api.Form{Kind: api.FList, A: 38}
	for k := range 39 {
		fits(t, f, k, number(5), true)
	}
	fits(t, f, 39, theList(), true)
	fits(t, f, 39, number(5), false)
	fits(t, f, 40, number(5), false)
	for _, more := range []int{api.MaxForms + 1, 256, 257, 70000} {
		for _, k := range []int{0, 1, 40, more - 1, more} {
			fits(t, slices.Repeat([]api.Form{{Kind: api.FInt}}, more), k, number(5), false)
		}
	}
}

func TestFitsEachShortMessage(t *testing.T) {
	f := everyForm()
	f[0] = api.Form{Kind: api.FData, Cons: []int{-1, 3, 8, -1}}
	f[8] = api.Form{Kind: api.FPair, A: 6, B: 1}
	found := make([]int, len(f))
	short(5, func(m api.Message) {
		x, ok := plainTree(m)
		for k := range f {
			want := ok && plainFits(f, k, x)
			if data.Fits(f, k, m) != want {
				t.Errorf("Fits(form %d, %v) = %t", k, m, !want)
			}
			if want {
				found[k]++
			}
		}
	})
	for k, many := range found {
		if many == 0 {
			t.Errorf("none fits form %d", k)
		}
	}
}

func TestFitsAnyForms(t *testing.T) {
	r := rand.New(rand.NewSource(5))
	both := [2]int{}
	for range 20000 {
		f := someForms(r)
		k := r.Intn(len(f))
		m := fitting(r, f, k, 6).message()
		if r.Intn(2) == 0 {
			c := &m[r.Intn(len(m))]
			*c = []api.Cell{num(0), num(1), num(-1), str(""), block(c.Tag+1, c.N), block(1, c.N)}[r.Intn(6)]
		}
		x, ok := plainTree(m)
		want := ok && plainFits(f, k, x)
		fits(t, f, k, m, want)
		both[map[bool]int{true: 1}[want]]++
	}
	if both[0] < 3000 || both[1] < 3000 {
		t.Errorf("%d do not fit, %d do", both[0], both[1])
	}
}
