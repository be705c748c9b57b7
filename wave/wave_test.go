package wave_test

import (
	"fmt"
	"math"
	"math/big"
	"math/rand"
	"slices"
	"strconv"
	"testing"

	"letterbox/wave"
)

const most = 1 << 53 // up to it whole numbers are exact

var minus = math.Copysign(0, -1)

// units are i to the power of 0 to 3.
var units = [4]complex128{1, 1i, -1, -1i}

// zeros are 0 with all signs.
var zeros = [4]complex128{complex(0, 0), complex(0, minus), complex(minus, 0), complex(minus, minus)}

// someNumbers have whole parts, of either sign and 0.
var someNumbers = []complex128{
	0, 1, -1, 2, -3, 1i, -1i, 2i, -3i, 1 + 1i, 1 - 1i, -1 + 1i, -1 - 1i,
	3 + 4i, 3 - 4i, -3 + 4i, -5 - 12i, 1000 - 999i, -(1 << 20) + 7i,
}

// gauss is a number whose parts are whole, of any size: what is wanted is worked out by it.
type gauss struct{ re, im *big.Int }

func whole(re, im int) gauss {
	return gauss{big.NewInt(int64(re)), big.NewInt(int64(im))}
}

func gaussOf(a complex128) gauss { return whole(int(real(a)), int(imag(a))) }

func (a gauss) plus(b gauss) gauss {
	return gauss{new(big.Int).Add(a.re, b.re), new(big.Int).Add(a.im, b.im)}
}

func (a gauss) times(b gauss) gauss {
	product := func(x, y *big.Int) *big.Int { return new(big.Int).Mul(x, y) }
	return gauss{
		new(big.Int).Sub(product(a.re, b.re), product(a.im, b.im)),
		new(big.Int).Add(product(a.re, b.im), product(a.im, b.re)),
	}
}

// number is a as what the package tells; both parts must be exact.
func (a gauss) number(t *testing.T) complex128 {
	t.Helper()
	re, one := new(big.Float).SetInt(a.re).Float64()
	im, two := new(big.Float).SetInt(a.im).Float64()
	if one != big.Exact || two != big.Exact {
		t.Fatalf("a test's own number is too great: %v, %v", a.re, a.im)
	}
	return complex(re, im)
}

// polyOf is Poly, worked out from the last number on.
func polyOf(t *testing.T, at complex128, l []int) complex128 {
	t.Helper()
	sum := whole(0, 0)
	for _, n := range slices.Backward(l) {
		sum = sum.times(gaussOf(at)).plus(whole(n, 0))
	}
	return sum.number(t)
}

// bits are a's parts, told apart even where they are 0 and -0.
func bits(a complex128) [2]uint64 {
	return [2]uint64{math.Float64bits(real(a)), math.Float64bits(imag(a))}
}

// expect wants a number, and no sign of a 0.
func expect(t *testing.T, what string, got, want complex128) {
	t.Helper()
	if bits(got) != bits(want+0) {
		t.Errorf("%s: %v, want %v", what, got, want+0)
	}
}

func expectSize(t *testing.T, a complex128, want float64) {
	t.Helper()
	if got := wave.Size(a); math.Float64bits(got) != math.Float64bits(want) {
		t.Errorf("Size of %v: %v, want %v", a, got, want)
	}
}

// drawn is a number whose parts are between -n and n.
func drawn(r *rand.Rand, n int) complex128 {
	return complex(float64(r.Intn(2*n+1)-n), float64(r.Intn(2*n+1)-n))
}

// drawnList is so many numbers between -n and n, among them some of 0.
func drawnList(r *rand.Rand, many, n int) []int {
	l := make([]int, many)
	for i := range l {
		if r.Intn(4) > 0 {
			l[i] = r.Intn(2*n+1) - n
		}
	}
	return l
}

// P6.1

func TestTurn(t *testing.T) {
	for _, c := range []struct {
		l    []int
		want complex128
	}{
		{nil, 0},
		{[]int{}, 0},
		{[]int{0}, 0},
		{[]int{7}, 7},
		{[]int{-7}, -7},
		{[]int{5, 3}, 5 + 3i},
		{[]int{0, 1}, 1i},
		{[]int{0, -1}, -1i},
		{[]int{0, 0, 7}, -7},
		{[]int{0, 0, -7}, 7},
		{[]int{1, 2, 4}, -3 + 2i},
		{[]int{0, 0, 0, -2}, 2i},
		{[]int{0, 0, 0, 2}, -2i},
		{[]int{1, 1, 1, 1}, 0},
		{[]int{1, 2, 4, 8}, -3 - 6i},
		{[]int{1, 1, 1, 1, 1}, 1},
		{[]int{1, 2, 4, 8, 16}, 13 - 6i},
		{[]int{1, 2, 3, 4, 5, 6, 7, 8}, -4 - 4i},
		{[]int{-1, -2, -3, -4, -5}, -3 + 2i},
		{[]int{0, 0, 0, 0, 0, 0, 0, 0, 0, 9}, 9i},
	} {
		expect(t, "Turn", wave.Turn(c.l...), c.want)
	}
	for place := range 1000 {
		l := make([]int, place+1)
		l[place] = 3
		expect(t, "Turn of one that is far behind", wave.Turn(l...), 3*units[place%4])
	}
	ones := slices.Repeat([]int{1}, 1<<20+2)
	expect(t, "Turn of very many", wave.Turn(ones...), 1+1i)
}

func TestBack(t *testing.T) {
	for _, c := range []struct{ a, want complex128 }{
		{0, 0},
		{5, 5},
		{-5, -5},
		{1i, -1i},
		{-1i, 1i},
		{3 + 4i, 3 - 4i},
		{3 - 4i, 3 + 4i},
		{-3 + 4i, -3 - 4i},
		{-3 - 4i, -3 + 4i},
		{most - most*1i, most + most*1i},
		{1 - most + (most-1)*1i, 1 - most - (most-1)*1i},
	} {
		expect(t, "Back", wave.Back(c.a), c.want)
		expect(t, "Back of Back", wave.Back(wave.Back(c.a)), c.a)
	}
}

func TestMul(t *testing.T) {
	for _, c := range []struct{ a, b, want complex128 }{
		{0, 0, 0},
		{3 + 4i, 1 - 2i, 11 - 2i},
		{3 + 4i, 2, 6 + 8i},
		{3 + 4i, -2, -6 - 8i},
		{3 + 4i, 2i, -8 + 6i},
		{-3 - 4i, -1 - 2i, -5 + 10i},
		{-3 + 4i, 3 + 4i, -25},
		{1 + 1i, 1 + 1i, 2i},
		{1i, 1i, -1},
		{-1i, -1i, -1},
		{-1i, 1i, 1},
	} {
		expect(t, "Mul", wave.Mul(c.a, c.b), c.want)
		expect(t, "Mul, the other way round", wave.Mul(c.b, c.a), c.want)
	}
	for _, a := range someNumbers {
		expect(t, "Mul by 0", wave.Mul(a, 0), 0)
		expect(t, "Mul by 1", wave.Mul(a, 1), a)
		expect(t, "Mul by -1", wave.Mul(a, -1), -a)
		expect(t, "Mul by i", wave.Mul(a, 1i), complex(-imag(a), real(a)))
		expect(t, "Mul by -i", wave.Mul(a, -1i), complex(imag(a), -real(a)))
		expect(t, "Mul by Back", wave.Mul(a, wave.Back(a)), complex(wave.Size(a), 0))
		for _, b := range someNumbers {
			expect(t, "Mul", wave.Mul(a, b), gaussOf(a).times(gaussOf(b)).number(t))
		}
	}
}

func TestSize(t *testing.T) {
	for _, c := range []struct {
		a    complex128
		want float64
	}{
		{0, 0},
		{1, 1},
		{-1, 1},
		{1i, 1},
		{-1i, 1},
		{7, 49},
		{-7, 49},
		{7i, 49},
		{-7i, 49},
		{3 + 4i, 25},
		{3 - 4i, 25},
		{-3 + 4i, 25},
		{-3 - 4i, 25},
		{1 + 2i, 5},
		{1 << 26, 1 << 52},
	} {
		expectSize(t, c.a, c.want)
		expectSize(t, wave.Back(c.a), c.want)
	}
}

func TestPoly(t *testing.T) {
	for _, c := range []struct {
		at   complex128
		l    []int
		want complex128
	}{
		{2, []int{1, 1, 1, 1, 1}, 31},
		{-2, []int{1, 1, 1, 1, 1}, 11},
		{10, []int{1, 2, 3}, 321},
		{10, []int{0, 0, 0, 5}, 5000},
		{-10, []int{-1, -2, -3}, -281},
		{3, []int{-9, 0, 1}, 0},
		{2i, []int{1, 1, 1, 1}, -3 - 6i},
		{-2i, []int{1, 1, 1, 1}, -3 + 6i},
		{1 + 1i, []int{0, 0, 7}, 14i},
		{1 - 1i, []int{0, 0, 0, 1}, -2 - 2i},
		{3 - 4i, []int{5, 6}, 23 - 24i},
		{-3 + 4i, []int{1, 0, 2}, -13 - 48i},
	} {
		expect(t, "Poly", wave.Poly(c.at, c.l...), c.want)
	}
	lists := [][]int{{1}, {-1}, {3, 5}, {1, 2, 3}, {7, -7, 7, 7}, {0, 0, 0, 4}, {1, 2, 3, 4, 5}, {-9, 8, -7, 6, -5, 4, -3, 2}}
	for _, at := range someNumbers {
		expect(t, "Poly of none", wave.Poly(at), 0)
		expect(t, "Poly of no list", wave.Poly(at, []int(nil)...), 0)
		expect(t, "Poly of zeros", wave.Poly(at, 0, 0, 0), 0)
		expect(t, "Poly of one", wave.Poly(at, 6), 6)
		expect(t, "Poly of the place 1", wave.Poly(at, 0, 1), at)
		expect(t, "Poly of the place 2", wave.Poly(at, 0, 0, 1), wave.Mul(at, at))
		for _, l := range lists {
			small := real(at)*real(at)+imag(at)*imag(at) < 200 // so that all powers are
			if small {
				expect(t, "Poly", wave.Poly(at, l...), polyOf(t, at, l))
			}
		}
	}
}

func TestPolyAtZeroAndUnits(t *testing.T) {
	r := rand.New(rand.NewSource(1))
	for many := range 50 {
		l := drawnList(r, many, 1<<40)
		first, sum, turns := 0, 0, 0
		for place, n := range l {
			if place == 0 {
				first = n
			}
			sum += n
			turns += n * (1 - place%2*2)
		}
		expect(t, "Poly at 0", wave.Poly(0, l...), complex(float64(first), 0))
		expect(t, "Poly at 1", wave.Poly(1, l...), complex(float64(sum), 0))
		expect(t, "Poly at -1", wave.Poly(-1, l...), complex(float64(turns), 0))
		expect(t, "Poly at i", wave.Poly(1i, l...), polyOf(t, 1i, l))
		expect(t, "Poly at -i", wave.Poly(-1i, l...), polyOf(t, -1i, l))
		expect(t, "Poly at -i", wave.Poly(-1i, l...), wave.Back(wave.Poly(1i, l...)))
	}
}

func TestPolyOfRandomNumbers(t *testing.T) {
	r := rand.New(rand.NewSource(2))
	for range 3000 {
		at := drawn(r, 5)
		l := drawnList(r, r.Intn(12), 1<<15) // below 2^15 * 12 * 8^11
		expect(t, "Poly", wave.Poly(at, l...), polyOf(t, at, l))
	}
}

// A number of 0 takes nothing from its place, however great the power there is.
func TestPolyOfZerosBehind(t *testing.T) {
	l := append([]int{5, 2}, make([]int, 5000)...)
	for _, at := range []complex128{3, -10, 1000i, 2 + 3i, most} {
		expect(t, "Poly with zeros behind", wave.Poly(at, l...), 5+2*at)
	}
}

// P6.2

func TestFourths(t *testing.T) {
	for _, c := range []struct {
		l    []int
		want [4]int
	}{
		{nil, [4]int{}},
		{[]int{}, [4]int{}},
		{[]int{5}, [4]int{5}},
		{[]int{-5}, [4]int{-5}},
		{[]int{5, 3}, [4]int{5, 3}},
		{[]int{1, 2, 3}, [4]int{1, 2, 3}},
		{[]int{0, 0, 0, 9}, [4]int{0, 0, 0, 9}},
		{[]int{1, 2, 3, 4}, [4]int{1, 2, 3, 4}},
		{[]int{1, 2, 3, 4, 5}, [4]int{6, 2, 3, 4}},
		{[]int{1, -2, 3, -4, -5, 6, -7, 8, 9}, [4]int{5, 4, -4, 4}},
		{[]int{most, most - 1, -most, 1 - most}, [4]int{most, most - 1, -most, 1 - most}},
		{[]int{most - 1, 0, 0, 0, 1, -most, 0, 0, -1}, [4]int{most - 1, -most}},
	} {
		if got := wave.Fourths(c.l...); got != c.want {
			t.Errorf("Fourths of %v: %v, want %v", c.l, got, c.want)
		}
	}
	r := rand.New(rand.NewSource(3))
	for many := range 200 {
		l := drawnList(r, many, 1<<40)
		var want [4]int
		for k := range want {
			for place := k; place < len(l); place += 4 {
				want[k] += l[place]
			}
		}
		if got := wave.Fourths(l...); got != want {
			t.Errorf("Fourths of %v: %v, want %v", l, got, want)
		}
		turned := complex(float64(want[0]-want[2]), float64(want[1]-want[3]))
		expect(t, "Turn of Fourths", wave.Turn(l...), turned)
		expect(t, "Turn of Fourths", wave.Turn(want[:]...), turned)
	}
}

// P6.3

func TestTurnIsPolyAtI(t *testing.T) {
	r := rand.New(rand.NewSource(4))
	for many := range 300 {
		for _, n := range []int{1, 1000, 1 << 44} { // 300 of them are below 2^53 together
			l := drawnList(r, many, n)
			want := polyOf(t, 1i, l)
			expect(t, "Turn", wave.Turn(l...), want)
			expect(t, "Poly at i", wave.Poly(1i, l...), want)
			expect(t, "Poly at i with a -0", wave.Poly(complex(minus, 1), l...), want)
		}
	}
}

func TestSizeOfProducts(t *testing.T) {
	r := rand.New(rand.NewSource(5))
	for range 5000 {
		a, b := drawn(r, 6000), drawn(r, 6000) // 72000000 times as much again is below 2^53
		expectSize(t, wave.Mul(a, b), wave.Size(a)*wave.Size(b))
		expect(t, "Mul", wave.Mul(a, b), gaussOf(a).times(gaussOf(b)).number(t))
		expect(t, "Back of Mul", wave.Back(wave.Mul(a, b)), wave.Mul(wave.Back(a), wave.Back(b)))
	}
	for _, a := range someNumbers {
		for _, b := range someNumbers {
			if wave.Size(a)*wave.Size(b) < most {
				expectSize(t, wave.Mul(a, b), wave.Size(a)*wave.Size(b))
			}
		}
	}
}

func TestZeroHasNoSign(t *testing.T) {
	for _, zero := range zeros {
		expect(t, "Back of 0", wave.Back(zero), 0)
		expectSize(t, zero, 0)
		expect(t, "Poly at 0", wave.Poly(zero, -4, 3, -2, 1), -4)
		expect(t, "Poly at 0", wave.Poly(zero, 0, -3), 0)
		for _, a := range someNumbers {
			expect(t, "Mul by 0", wave.Mul(a, zero), 0)
			expect(t, "Mul of 0", wave.Mul(zero, a), 0)
			for _, b := range []complex128{complex(real(a), real(zero)), complex(imag(zero), imag(a)), a - zero} {
				expect(t, "Back", wave.Back(b), wave.Back(b+0))
				expect(t, "Mul", wave.Mul(b, 2), wave.Mul(b+0, 2))
				expect(t, "Mul", wave.Mul(-3i, b), wave.Mul(-3i, b+0))
				expect(t, "Poly", wave.Poly(b, -1, 0, 1), wave.Poly(b+0, -1, 0, 1))
				expectSize(t, b, wave.Size(b+0))
			}
		}
		for _, other := range zeros {
			expect(t, "Mul of zeros", wave.Mul(zero, other), 0)
		}
	}
	for _, l := range [][]int{{-1, 0, -1}, {1, -1, 1, -1}, {0, -1, 0, -1}, {-2, 0, 0, 0, 2}, {0, 0, 0, 0, 0}} {
		for _, at := range []complex128{1, -1, 1i, -1i, -2, 2i} {
			expect(t, "Poly", wave.Poly(at, l...), polyOf(t, at, l))
		}
	}
}

// Words and Ways

func TestExactUpToTheBound(t *testing.T) {
	for _, n := range []int{most, most - 1, most - 2, -most, 1 - most, most/2 + 1} {
		x := complex(float64(n), 0)
		expect(t, "Turn", wave.Turn(n), x)
		expect(t, "Turn", wave.Turn(0, n), x*1i)
		expect(t, "Turn", wave.Turn(0, 0, n), -x)
		expect(t, "Turn", wave.Turn(n, -n, 0, 0, 0, 0, n, -n), 0)
		expect(t, "Turn", wave.Turn(n, n, n, n, n), x)
		expect(t, "Poly at 0", wave.Poly(0, n, n), x)
		expect(t, "Poly at 1", wave.Poly(1, 0, n, -n, n), x)
		expect(t, "Poly at -1", wave.Poly(-1, 0, n), -x)
		expect(t, "Mul by 1", wave.Mul(x, 1), x)
		expect(t, "Mul by -i", wave.Mul(-1i, x), x*-1i)
	}
	expect(t, "Turn", wave.Turn(most-1, 0, most-2), 1)
	expect(t, "Turn", wave.Turn(most/2, 0, 1-most/2), most-1)
	expect(t, "Poly", wave.Poly(1, most/2, most/2-1), most-1)
	expect(t, "Poly", wave.Poly(2, 1, most/2-1), most-1)
	expect(t, "Poly", wave.Poly(1<<26, 1<<26-1, 1<<26-1, 1), (1<<52)+(1<<52)-1)
	expect(t, "Poly", wave.Poly(1i*(1<<26), 1, 3, -1), 1<<52+1+3i*(1<<26))
	expect(t, "Mul", wave.Mul(94906265, 94906265), 94906265*94906265)
	expect(t, "Mul", wave.Mul(1<<26-1+1i, 1<<27+1i), (1<<26-1)*(1<<27)-1+(1<<26-1+1<<27)*1i)
	expect(t, "Mul", wave.Mul(1<<26+(1<<26-1)*1i, 1<<26+(1<<26-1)*1i), 1<<27-1+(1<<53-1<<27)*1i)
	expectSize(t, 94906265, 94906265*94906265)
	expectSize(t, 1<<26-(1<<26-1)*1i, 1<<52+(1<<26-1)*(1<<26-1))
	expectSize(t, 1<<26+(1<<26)*1i, most)
	expectSize(t, -94906264i+15235, 94906264*94906264+15235*15235)
}

func TestPowersUpToTheBound(t *testing.T) {
	for _, at := range someNumbers {
		power, places := whole(1, 0), 0
		for size := math.Max(wave.Size(at), 2); math.Pow(size, float64(places)/2) <= most/4; places++ {
			l := make([]int, places+1)
			l[0], l[places] = 1, 1
			want := power.plus(whole(1, 0))
			if places == 0 {
				want = power
			}
			expect(t, "Poly of a power", wave.Poly(at, l...), want.number(t))
			power = power.times(gaussOf(at))
		}
	}
}

func TestWhatIsHandedInStays(t *testing.T) {
	all := []int{1, -2, 3, -4, 5, 77, 88}
	was := slices.Clone(all)
	l := all[:5]
	turned, fourths, poly := wave.Turn(l...), wave.Fourths(l...), wave.Poly(2, l...)
	if !slices.Equal(all, was) {
		t.Errorf("what was handed in was changed: %v", all)
	}
	clear(all)
	if turned != 3+2i || fourths != [4]int{6, -2, 3, -4} || poly != 57 {
		t.Errorf("answers changed: %v, %v, %v", turned, fourths, poly)
	}
	expect(t, "Turn behind a change", wave.Turn(l...), 0)
	expect(t, "Poly behind a change", wave.Poly(2, l...), 0)
	if got := wave.Fourths(l...); got != [4]int{} {
		t.Errorf("Fourths behind a change: %v", got)
	}
	expect(t, "Turn of what was", wave.Turn(was[:5]...), turned)
}

// told is all that wave answers of numbers; a NaN is as good as another.
func told(a, b complex128, l []int) string {
	text := fmt.Sprint(wave.Fourths(l...), wave.Size(a))
	for _, c := range []complex128{wave.Turn(l...), wave.Poly(a, l...), wave.Back(a), wave.Mul(a, b)} {
		text += " " + strconv.FormatComplex(c, 'g', -1, 128)
	}
	return text
}

// Nothing is promised of these but that each call ends, and tells the same again.
func TestNumbersThatAreNotAskedFor(t *testing.T) {
	parts := []float64{0, minus, 0.5, -1.5, math.MaxFloat64, -math.MaxFloat64, math.SmallestNonzeroFloat64, math.Inf(1), math.Inf(-1), math.NaN(), most + 2}
	lists := [][]int{nil, {1}, {0, 0, 0}, {math.MinInt, math.MaxInt, math.MinInt, math.MaxInt, math.MinInt, math.MaxInt}, {most + 1, -most - 1}}
	for _, re := range parts {
		for _, im := range parts {
			a := complex(re, im)
			for _, b := range []complex128{a, 0, 1i, complex(im, re)} {
				for _, l := range lists {
					if first, second := told(a, b, l), told(a, b, l); first != second {
						t.Errorf("told unlike of %v, %v, %v: %s, then %s", a, b, l, first, second)
					}
				}
			}
		}
	}
}
