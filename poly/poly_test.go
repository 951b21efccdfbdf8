package poly_test

import (
	"math/rand"
	"slices"
	"testing"

	"junto/api"
	"junto/poly"
)

// P2.1

func TestTrim(t *testing.T) {
	for _, p := range primes {
		for _, f := range polynomials(p, 4) {
			expect(t, "Trim", got(poly.Trim(p, f)), stripped(f)...)
		}
		expect(t, "Trim of 201 zeros", got(poly.Trim(p, make([]uint64, 201))))
		expect(t, "Trim with 200 zeros", got(poly.Trim(p, padded(list(1), 200))), 1)
		expect(t, "Trim with a leading zero", got(poly.Trim(p, list(0, 0, 2, 0))), 0, 0, 2)
	}
}

func TestEval(t *testing.T) {
	for _, p := range primes {
		for _, f := range polynomials(p, 4) {
			for _, x := range list(0, 1, 2, p/2, p-1) {
				expect(t, "Eval", number(poly.Eval(p, f, x)), at(p, f, x))
			}
		}
		long := slices.Repeat(list(p-1), 201)
		for _, x := range list(0, 1, 2, p-1) {
			expect(t, "Eval of 201 coefficients", number(poly.Eval(p, long, x)), at(p, long, x))
		}
	}
}

func TestEvalOfNoElement(t *testing.T) {
	for _, p := range primes {
		for _, x := range notBelow(p) {
			fails(t, "Eval", number(poly.Eval(p, list(1, 2), x)), api.ErrArg)
			fails(t, "Eval of zero", number(poly.Eval(p, nil, x)), api.ErrArg)
			fails(t, "Eval of a long list", number(poly.Eval(p, make([]uint64, 202), x)), api.ErrLimit)
		}
	}
}

// P2.2

func TestAddAndSub(t *testing.T) {
	for _, p := range primes {
		for _, f := range polynomials(p, 3) {
			for _, g := range polynomials(p, 3) {
				expect(t, "Add", got(poly.Add(p, f, g)), plus(p, f, 1, g)...)
				expect(t, "Sub", got(poly.Sub(p, f, g)), plus(p, f, p-1, g)...)
			}
		}
		long := slices.Repeat(list(p-1), 201)
		expect(t, "Add of long ones", got(poly.Add(p, long, long)), slices.Repeat(list(p-2), 201)...)
		expect(t, "Sub of equal ones", got(poly.Sub(p, long, long)))
		expect(t, "Sub from zero", got(poly.Sub(p, nil, long)), slices.Repeat(list(1), 201)...)
	}
}

func TestScale(t *testing.T) {
	for _, p := range primes {
		for _, f := range polynomials(p, 4) {
			for _, k := range list(0, 1, 2, p-1) {
				expect(t, "Scale", got(poly.Scale(p, f, k)), plus(p, nil, k, f)...)
			}
		}
		for _, k := range notBelow(p) {
			fails(t, "Scale by no element", got(poly.Scale(p, list(1), k)), api.ErrArg)
			fails(t, "Scale of a long list", got(poly.Scale(p, make([]uint64, 202), k)), api.ErrLimit)
		}
	}
}

func TestMul(t *testing.T) {
	for _, p := range primes {
		for _, f := range polynomials(p, 3) {
			for _, g := range polynomials(p, 3) {
				expect(t, "Mul", got(poly.Mul(p, f, g)), times(p, f, g)...)
			}
		}
		random := rand.New(rand.NewSource(1))
		f, g := slices.Repeat(list(p-1), 101), append(drawn(random, p, 100), 1)
		expect(t, "Mul of long ones", got(poly.Mul(p, f, g)), times(p, f, g)...)
	}
}

// power returns x to the power n.
func power(n int) []uint64 {
	return append(make([]uint64, n), 1)
}

func TestMulLimit(t *testing.T) {
	for _, p := range primes {
		for n := range 201 {
			product := power(200)
			expect(t, "Mul of degree 200", got(poly.Mul(p, power(n), power(200-n))), product...)
			expect(t, "Mul with trailing zeros", got(poly.Mul(p, padded(power(n), 200-n), padded(power(200-n), n))), product...)
			if n > 0 {
				fails(t, "Mul of degree 201", got(poly.Mul(p, power(n), power(201-n))), api.ErrLimit)
			}
		}
		expect(t, "Mul by 0", got(poly.Mul(p, power(200), make([]uint64, 201))))
		expect(t, "Mul of 0", got(poly.Mul(p, nil, power(200))))
		fails(t, "Mul of the longest", got(poly.Mul(p, power(200), power(200))), api.ErrLimit)
	}
}

// P2.3

// divides checks Divide: the parts make up f, and the remainder is shorter than g.
func divides(t *testing.T, p uint64, f, g []uint64) {
	t.Helper()
	q, r, e := poly.Divide(p, f, g)
	if e != api.OK || !slices.Equal(q, stripped(q)) || !slices.Equal(r, stripped(r)) || len(r) >= len(stripped(g)) {
		t.Error(p, f, g, q, r, e)
	}
	if sum := plus(p, times(p, q, g), 1, r); !slices.Equal(sum, stripped(f)) {
		t.Error(p, f, g, q, r, sum)
	}
}

func TestDivide(t *testing.T) {
	for _, p := range primes {
		for _, f := range polynomials(p, 4) {
			for _, g := range polynomials(p, 3) {
				if len(stripped(g)) > 0 {
					divides(t, p, f, g)
				}
			}
		}
		random := rand.New(rand.NewSource(2))
		for _, n := range []int{1, 2, 50, 100, 200, 201} {
			divides(t, p, slices.Repeat(list(p-1), 201), append(drawn(random, p, n-1), p-1))
		}
		divides(t, p, padded(list(1, 1), 199), padded(list(0, 1), 199))
	}
}

func TestDivideByZero(t *testing.T) {
	for _, p := range primes {
		for _, f := range [][]uint64{nil, {1}, {1, 2}, {0}} {
			for _, n := range []int{0, 1, 2, 201} {
				fails(t, "Divide by 0", ratio(poly.Divide(p, f, make([]uint64, n))), api.ErrZero)
			}
		}
		fails(t, "Divide p by 0", ratio(poly.Divide(p, list(p), nil)), api.ErrArg)
		fails(t, "Divide by a long list", ratio(poly.Divide(p, nil, make([]uint64, 202))), api.ErrLimit)
	}
}

// divisible reports whether g divides f.
func divisible(p uint64, f, g []uint64) bool {
	_, r, e := poly.Divide(p, f, g)
	return e == api.OK && len(r) == 0
}

func TestGcd(t *testing.T) {
	for _, p := range primes {
		for _, f := range polynomials(p, 3) {
			for _, g := range polynomials(p, 3) {
				if len(stripped(f))+len(stripped(g)) == 0 {
					expect(t, "Gcd of zeros", got(poly.Gcd(p, f, g)))
					continue
				}
				d, e := poly.Gcd(p, f, g)
				if e != api.OK || len(d) == 0 || d[len(d)-1] != 1 || !divisible(p, f, d) || !divisible(p, g, d) {
					t.Error(p, f, g, d, e)
				}
			}
		}
	}
}

func TestGcdIsGreatest(t *testing.T) {
	for _, p := range []uint64{3, 5} {
		for _, f := range tuples(p, 3) {
			for _, g := range tuples(p, 3) {
				d, _ := poly.Gcd(p, f, g)
				for _, c := range tuples(p, 3) {
					if divisible(p, f, c) && divisible(p, g, c) && !divisible(p, d, c) {
						t.Error(p, f, g, d, c)
					}
				}
			}
		}
	}
}

func TestGcdOfMultiples(t *testing.T) {
	random := rand.New(rand.NewSource(3))
	for _, p := range primes {
		for _, n := range []int{0, 1, 5, 60, 100} {
			common := append(drawn(random, p, n), 1)
			f, g := times(p, common, list(2, 0, 1)), times(p, common, list(1, 0, 1)) // these differ by common
			expect(t, "Gcd", got(poly.Gcd(p, f, g)), common...)
			expect(t, "Gcd with 0", got(poly.Gcd(p, plus(p, nil, p-1, common), nil)), common...)
			expect(t, "Gcd of 0", got(poly.Gcd(p, list(0), plus(p, nil, 2, common))), common...)
			expect(t, "Gcd of equal ones", got(poly.Gcd(p, f, f)), f...)
		}
		expect(t, "Gcd of constants", got(poly.Gcd(p, list(2), list(p-1))), 1)
		expect(t, "Gcd of long ones", got(poly.Gcd(p, power(200), padded(power(150), 50))), power(150)...)
	}
}

// P2.4

func TestSlope(t *testing.T) {
	for _, p := range primes {
		for _, f := range append(polynomials(p, 4), slices.Repeat(list(p-1), 201)) {
			var want []uint64
			for i := 1; i < len(f); i++ {
				want = append(want, uint64(i)*f[i]%p)
			}
			expect(t, "Slope", got(poly.Slope(p, f)), stripped(want)...)
		}
		if p <= 200 {
			expect(t, "Slope of x to the power p", got(poly.Slope(p, power(int(p)))))
			expect(t, "Slope of x to the power p, plus 2x", got(poly.Slope(p, plus(p, power(int(p)), 1, list(0, 2)))), 2)
		}
	}
}

// P2.9

func TestValues(t *testing.T) {
	for _, p := range primes {
		for _, f := range polynomials(p, 3) {
			for _, g := range polynomials(p, 3) {
				sum, _ := poly.Add(p, f, g)
				product, _ := poly.Mul(p, f, g)
				for _, x := range list(0, 1, 2, p/2, p-1) {
					a, b := at(p, f, x), at(p, g, x)
					expect(t, "value of a sum", number(poly.Eval(p, sum, x)), (a+b)%p)
					expect(t, "value of a product", number(poly.Eval(p, product, x)), a*b%p)
				}
			}
		}
	}
}
