package plot

import (
	"math"
	"slices"
	"strings"
	"testing"

	"assayer/api"
)

var minusZero = math.Copysign(0, -1)

// strange is places that are no whole ones.
func strange() []complex128 {
	parts := []float64{
		math.NaN(), math.Inf(1), math.Inf(-1), 101, -101, 0.5, -0.5, 99.5, -99.5, 1e300, -1e300, 1 << 53, -(1 << 63),
		math.SmallestNonzeroFloat64, -math.SmallestNonzeroFloat64, math.MaxFloat64,
		math.Nextafter(100, 101), math.Nextafter(-100, -101), math.Nextafter(100, 0), math.Nextafter(1, 0), math.Nextafter(1, 2),
	}
	var l []complex128
	for _, x := range parts {
		l = append(l, complex(x, 0), complex(0, x), complex(x, x), complex(x, 100), complex(-100, x))
	}
	return l
}

// forWhole calls f with all whole places.
func forWhole(f func(place complex128, column, row int)) {
	for column := -100; column <= 100; column++ {
		for row := -100; row <= 100; row++ {
			f(complex(float64(column), float64(row)), column, row)
		}
	}
}

// hasMinus tells whether a part is -0, which nobody could tell by ==.
func hasMinus(place complex128) bool {
	return real(place) == 0 && math.Signbit(real(place)) || imag(place) == 0 && math.Signbit(imag(place))
}

// P22.1
func TestSpiral(t *testing.T) {
	want := []complex128{
		0, 1, 1 + 1i, 1i, -1 + 1i, -1, -1 - 1i, -1i, 1 - 1i, 2 - 1i, 2, 2 + 1i, 2 + 2i, 1 + 2i, 2i, -1 + 2i, -2 + 2i,
		-2 + 1i, -2, -2 - 1i, -2 - 2i, -1 - 2i, -2i, 1 - 2i, 2 - 2i, 3 - 2i, 3 - 1i,
	}
	for n := range len(want) + 1 {
		if got := Spiral(n); !slices.Equal(got, want[:n]) {
			t.Errorf("%d: %v", n, got)
		}
	}
}

// P22.1
func TestSpiralLimits(t *testing.T) {
	whole := Spiral(api.MaxPlot)
	for _, x := range []struct{ n, want int }{
		{math.MinInt, 0}, {-100, 0}, {-1, 0}, {0, 0}, {1, 1}, {50, 50}, {99, 99}, {100, 100}, {101, 100}, {500, 100}, {math.MaxInt, 100},
	} {
		if got := Spiral(x.n); !slices.Equal(got, whole[:x.want]) {
			t.Errorf("%d: %v", x.n, got)
		}
	}
}

// P22.1: step by step, the sides 1, 1, 2, 2, 3, 3 .. long.
func TestSpiralSides(t *testing.T) {
	var want []complex128
	column, row, columnStep, rowStep := 0, 0, 1, 0
	for side := 1; len(want) < api.MaxPlot; side++ {
		for range 2 {
			for range side {
				want = append(want, complex(float64(column), float64(row)))
				column, row = column+columnStep, row+rowStep
			}
			columnStep, rowStep = -rowStep, columnStep
		}
	}
	if got := Spiral(api.MaxPlot); !slices.Equal(got, want[:api.MaxPlot]) {
		t.Error(got)
	}
}

// P22.4
func TestSpiralPlaces(t *testing.T) {
	l := Spiral(api.MaxPlot)
	seen := map[complex128]int{}
	for n, place := range l {
		seen[place]++
		if seen[place] > 1 || hasMinus(place) {
			t.Error("place", n, place)
		}
		if n == 0 {
			continue
		}
		if step := place - l[n-1]; step != 1 && step != -1 && step != 1i && step != -1i {
			t.Error("step", n, step)
		}
	}
}

// P22.2
func TestTurn(t *testing.T) {
	for _, x := range []struct {
		place    complex128
		quarters int
		want     complex128
	}{
		{2 + 1i, 0, 2 + 1i}, {2 + 1i, 1, -1 + 2i}, {2 + 1i, 2, -2 - 1i}, {2 + 1i, 3, 1 - 2i}, {2 + 1i, 4, 2 + 1i},
		{2 + 1i, -1, 1 - 2i}, {2 + 1i, -2, -2 - 1i}, {2 + 1i, -3, -1 + 2i}, {2 + 1i, -4, 2 + 1i}, {2 + 1i, -5, 1 - 2i},
		{100 - 100i, 1, 100 + 100i}, {-100 + 7i, -1, 7 + 100i}, {0, 1, 0}, {3, 1, 3i}, {3i, 1, -3}, {-3, 1, -3i}, {-3i, 1, 3},
	} {
		if got := Turn([]complex128{x.place}, x.quarters); len(got) != 1 || got[0] != x.want {
			t.Errorf("%v by %d: %v", x.place, x.quarters, got)
		}
	}
	if got := Turn([]complex128{2 + 1i, 0.5, 1, 101, -1i}, 1); !slices.Equal(got, []complex128{-1 + 2i, 0, 1i, 0, 1}) {
		t.Error(got)
	}
	if len(Turn(nil, 1)) != 0 || len(Turn([]complex128{}, 0)) != 0 {
		t.Error("of none")
	}
}

// P22.2: each whole place, any number of quarters.
func TestTurnWhole(t *testing.T) {
	quarters := []int{math.MinInt, math.MinInt + 1, math.MinInt + 2, math.MinInt + 3, math.MaxInt, math.MaxInt - 1, math.MaxInt - 2, math.MaxInt - 3, 1000001, -1000001}
	for n := -9; n <= 9; n++ {
		quarters = append(quarters, n)
	}
	var l []complex128
	var parts [][2]int
	forWhole(func(place complex128, column, row int) {
		l = append(l, place)
		parts = append(parts, [2]int{column, row})
	})
	for _, q := range quarters {
		got := Turn(l, q)
		if len(got) != len(l) {
			t.Fatal(q, len(got))
		}
		for n, p := range parts {
			column, row := p[0], p[1]
			for range ((q % 4) + 4) % 4 {
				column, row = -row, column
			}
			if got[n] != complex(float64(column), float64(row)) || hasMinus(got[n]) {
				t.Fatal(q, l[n], got[n])
			}
		}
	}
}

// P22.2: what is no whole place is 0, without any quarter, too.
func TestTurnStrange(t *testing.T) {
	l := strange()
	for q := -5; q <= 5; q++ {
		got := Turn(l, q)
		if len(got) != len(l) {
			t.Fatal(len(got))
		}
		for n, place := range got {
			if place != 0 || hasMinus(place) {
				t.Error(l[n], q, place)
			}
		}
	}
}

// P22.2: 0 and -0 are one.
func TestMinusZero(t *testing.T) {
	l := []complex128{complex(minusZero, 0), complex(0, minusZero), complex(minusZero, minusZero), complex(3, minusZero), complex(minusZero, -3)}
	want := []complex128{0, 0, 0, 3, -3i}
	for q := range 4 {
		if got := Turn(l, q); !slices.Equal(got, Turn(want, q)) || slices.ContainsFunc(got, hasMinus) {
			t.Error(q, got)
		}
	}
	if low, high := Corners(l[:3]); low != 0 || high != 0 || hasMinus(low) || hasMinus(high) {
		t.Error(low, high)
	}
	if low, high := Corners(l[2:3]); low != 0 || high != 0 || hasMinus(low) || hasMinus(high) {
		t.Error(low, high)
	}
	if low, high := Corners(l); low != -3i || high != 3 || hasMinus(low) || hasMinus(high) {
		t.Error(low, high)
	}
	if s, e := Draw(l); s != "c..d\n....\n....\ne...\n" || e != api.OK {
		t.Errorf("%q %v", s, e)
	}
}

// P22.5
func TestFourTurns(t *testing.T) {
	var l []complex128
	forWhole(func(place complex128, _, _ int) { l = append(l, place) })
	for _, q := range []int{1, -1, 3, 5} {
		got := l
		for range 4 {
			got = Turn(got, q)
		}
		if !slices.Equal(got, l) {
			t.Error("four times", q)
		}
	}
	if !slices.Equal(Turn(l, 4), l) || !slices.Equal(Turn(l, -4), l) || !slices.Equal(Turn(Turn(l, 3), -3), l) {
		t.Error("four at once")
	}
}

// P22.2
func TestCorners(t *testing.T) {
	for _, x := range []struct {
		l         []complex128
		low, high complex128
	}{
		{nil, 0, 0},
		{[]complex128{}, 0, 0},
		{[]complex128{5 + 7i}, 5 + 7i, 5 + 7i},
		{[]complex128{-5 - 7i}, -5 - 7i, -5 - 7i},
		{[]complex128{1 + 9i, 4 + 2i}, 1 + 2i, 4 + 9i},
		{[]complex128{4 + 2i, 1 + 9i, 3 - 8i, 2 + 3i}, 1 - 8i, 4 + 9i},
		{[]complex128{100 - 100i, -100 + 100i}, -100 - 100i, 100 + 100i},
		{Spiral(8), -1 - 1i, 1 + 1i},
		{slices.Repeat([]complex128{3, 3i}, 1000), 0, 3 + 3i},
	} {
		if low, high := Corners(x.l); low != x.low || high != x.high {
			t.Errorf("%v: %v %v", x.l, low, high)
		}
	}
	for _, place := range strange() {
		for _, l := range [][]complex128{{place}, {1 + 1i, place}, {place, 2}, {3, place, 5 + 5i}} {
			if low, high := Corners(l); low != 0 || high != 0 {
				t.Errorf("%v: %v %v", l, low, high)
			}
		}
	}
}

// P22.3
func TestDraw(t *testing.T) {
	for _, x := range []struct {
		l    []complex128
		want string
	}{
		{nil, ""},
		{[]complex128{}, ""},
		{[]complex128{0}, "a\n"},
		{[]complex128{-100 + 100i}, "a\n"},
		{Spiral(5), "edc\n.ab\n"},
		{[]complex128{0, 3}, "a..b\n"},
		{[]complex128{0, 2i}, "b\n.\na\n"},
		{[]complex128{7 - 3i, 5 - 1i}, "b..\n...\n..a\n"},
		{[]complex128{1, 1, 2, 1}, "dc\n"},
		{Spiral(26), "qponm\nredcl\nsfabk\ntghij\nuvwxyz\n"},
		{Spiral(27), "qponm.\nredcl.\nsfabk.\ntghija\nuvwxyz\n"},
	} {
		want := evened(x.want)
		if got, e := Draw(x.l); got != want || e != api.OK {
			t.Errorf("%v: %q %v", x.l, got, e)
		}
	}
}

// evened is a drawing with all rows as long as the longest, so that points at the right may be left out.
func evened(s string) string {
	rows := strings.SplitAfter(s, "\n")
	width := 0
	for _, row := range rows {
		width = max(width, len(row))
	}
	for n, row := range rows[:len(rows)-1] {
		rows[n] = strings.TrimSuffix(row, "\n") + strings.Repeat(".", width-len(row)) + "\n"
	}
	return strings.Join(rows, "")
}

// P22.3
func TestDrawLimits(t *testing.T) {
	if s, e := Draw([]complex128{-100 - 100i, 100 + 100i}); e != api.OK || s != strings.Repeat(".", 200)+"b\n"+strings.Repeat(strings.Repeat(".", 201)+"\n", 199)+"a"+strings.Repeat(".", 200)+"\n" {
		t.Error(len(s), e)
	}
	if s, e := Draw(make([]complex128, api.MaxPlot)); s != "v\n" || e != api.OK {
		t.Errorf("%q %v", s, e)
	}
	full := append(make([]complex128, api.MaxPlot), 0)
	far := slices.Repeat([]complex128{101}, api.MaxPlot+1) // full comes ahead
	for _, l := range [][]complex128{full, far, make([]complex128, 100000)} {
		if s, e := Draw(l); s != "" || e != api.ErrFull {
			t.Errorf("%d: %q %v", len(l), s, e)
		}
	}
	for _, place := range strange() {
		for _, l := range [][]complex128{{place}, {1 + 1i, place}, {place, 2}, slices.Repeat([]complex128{place}, api.MaxPlot)} {
			if s, e := Draw(l); s != "" || e != api.ErrArg {
				t.Errorf("%v: %q %v", l, s, e)
			}
		}
	}
}

// lists is many lists of whole places, made by a short rule.
func lists() [][]complex128 {
	seed := uint32(1)
	pick := func(n int) int {
		seed = seed*1664525 + 1013904223
		return int(seed>>16) % n
	}
	var out [][]complex128
	for n := range 600 {
		most := []int{1, 3, 10, 100}[n%4]
		var l []complex128
		for range pick(api.MaxPlot + 1) {
			l = append(l, complex(float64(pick(2*most+1)-most), float64(pick(2*most+1)-most)))
		}
		out = append(out, l)
	}
	return out
}

// P22.3, held against a drawing that asks for each place who stands there; P22.5.
func TestDrawAgainstPlaces(t *testing.T) {
	for _, l := range lists() {
		got, e := Draw(l)
		if e != api.OK {
			t.Fatal(l, e)
		}
		unlike := map[complex128]int{}
		for n, place := range l {
			unlike[place] = n
		}
		low, high := Corners(l)
		var want strings.Builder
		for row := imag(high); len(l) > 0 && row >= imag(low); row-- {
			for column := real(low); column <= real(high); column++ {
				if n, ok := unlike[complex(column, row)]; ok {
					want.WriteByte("abcdefghijklmnopqrstuvwxyz"[n%26])
				} else {
					want.WriteByte('.')
				}
			}
			want.WriteByte('\n')
		}
		if got != want.String() {
			t.Fatalf("%v:\n%s", l, got)
		}
		if count := len(got) - strings.Count(got, ".") - strings.Count(got, "\n"); count != len(unlike) {
			t.Fatal(l, count)
		}
	}
}

// P22.2, P22.3: corners and drawings are the same whatever way led to the places.
func TestDrawTurned(t *testing.T) {
	for _, l := range lists() {
		low, high := Corners(l)
		l1, h1 := Corners(Turn(l, 1))
		if l1 != complex(-imag(high), real(low)) || h1 != complex(-imag(low), real(high)) {
			t.Fatal(l, l1, h1)
		}
		a, _ := Draw(l)
		if b, e := Draw(Turn(Turn(l, 1), 3)); a != b || e != api.OK {
			t.Fatal(l, b, e)
		}
	}
}

// What is handed in stays as it is, the room behind its end too; an answer is new memory.
func TestMemory(t *testing.T) {
	kept := []complex128{3 + 1i, complex(minusZero, 2), 0.5, 4, 5i}
	l := slices.Clone(kept)
	for _, part := range [][]complex128{l[:2], l[:3], l[:0]} {
		Corners(part)
		if _, e := Draw(part); e != api.OK && len(part) < 3 {
			t.Error(e)
		}
		for q := range 4 {
			got := Turn(part, q)
			for n := range got {
				got[n] = 77
			}
			_ = append(got, 78, 79)
		}
	}
	if !slices.Equal(l, kept) || !math.Signbit(real(l[1])) {
		t.Error(l)
	}
	a, b := Spiral(10), Spiral(10)
	a[3] = 50
	_ = append(a, 51, 52)
	if b[3] != 1i || !slices.Equal(Spiral(16)[:10], b) {
		t.Error(b)
	}
}
