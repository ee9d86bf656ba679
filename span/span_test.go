package span

import (
	"errors"
	"math"
	"math/bits"
	"slices"
	"testing"

	"cavil/api"
)

func sp(from, to int) api.Span { return api.Span{From: from, To: to} }

// lowest is the lowest number of the small spans: below 0, so that the negative ones are among them.
const lowest = -2

// small is all spans whose From and To lie between lowest and 4: empty ones, and ones whose From is greater than To, among them.
func small() []api.Span {
	var l []api.Span
	for from := lowest; from <= 4; from++ {
		for to := lowest; to <= 4; to++ {
			l = append(l, sp(from, to))
		}
	}
	return l
}

// within is all spans with a From that is not greater than To, between 0 and 4.
func within() []api.Span {
	var l []api.Span
	for from := 0; from <= 4; from++ {
		for to := from; to <= 4; to++ {
			l = append(l, sp(from, to))
		}
	}
	return l
}

// offsets is the offsets of small spans, one bit for each, as they are counted one by one.
func offsets(l ...api.Span) uint {
	var set uint
	for _, s := range l {
		for off := s.From; off < s.To; off++ {
			set |= 1 << (off - lowest)
		}
	}
	return set
}

// runs is the only list of spans in the form of Merge that has the offsets of set.
func runs(set uint) []api.Span {
	var l []api.Span
	for off := lowest; set>>(off-lowest) != 0; off++ {
		if set>>(off-lowest)&1 == 0 {
			continue
		}
		if n := len(l); n > 0 && l[n-1].To == off {
			l[n-1].To++
		} else {
			l = append(l, sp(off, off+1))
		}
	}
	return l
}

// triples calls f with each list of three small spans.
func triples(f func(l []api.Span)) {
	all := small()
	for _, a := range all {
		for _, b := range all {
			for _, c := range all {
				f([]api.Span{a, b, c})
			}
		}
	}
}

func expectCheck(t *testing.T, s api.Span, size int, want error) {
	t.Helper()
	if e := Check(s, size); !errors.Is(e, want) {
		t.Errorf("Check(%v, %d) = %v; want %v", s, size, e, want)
	}
}

func expectHas(t *testing.T, s api.Span, off int, want bool) {
	t.Helper()
	if Has(s, off) != want {
		t.Errorf("Has(%v, %d) = %v", s, off, !want)
	}
}

func expectMeet(t *testing.T, a, b, want api.Span, is bool) {
	t.Helper()
	if m, ok := Meet(a, b); m != want || ok != is {
		t.Errorf("Meet(%v, %v) = %v, %v; want %v, %v", a, b, m, ok, want, is)
	}
	if m, ok := Meet(b, a); m != want || ok != is {
		t.Errorf("Meet(%v, %v) = %v, %v; want %v, %v", b, a, m, ok, want, is)
	}
}

func expectCover(t *testing.T, l []api.Span, want api.Span) {
	t.Helper()
	if c := Cover(l...); c != want {
		t.Errorf("Cover(%v) = %v; want %v", l, c, want)
	}
}

func expectOrder(t *testing.T, a, b api.Span, want int) {
	t.Helper()
	if got := Order(a, b); got != want {
		t.Errorf("Order(%v, %v) = %d; want %d", a, b, got, want)
	}
	if got := Order(b, a); got != -want {
		t.Errorf("Order(%v, %v) = %d; want %d", b, a, got, -want)
	}
}

func expectSort(t *testing.T, l, want []api.Span) {
	t.Helper()
	if got := Sort(l); !slices.Equal(got, want) {
		t.Errorf("Sort(%v) = %v; want %v", l, got, want)
	}
}

func expectMerge(t *testing.T, l, want []api.Span) {
	t.Helper()
	if got := Merge(l); !slices.Equal(got, want) {
		t.Errorf("Merge(%v) = %v; want %v", l, got, want)
	}
}

func expectGaps(t *testing.T, l []api.Span, size int, want []api.Span) {
	t.Helper()
	if got, e := Gaps(l, size); e != nil || !slices.Equal(got, want) {
		t.Errorf("Gaps(%v, %d) = %v, %v; want %v", l, size, got, e, want)
	}
}

func expectNoGaps(t *testing.T, l []api.Span, size int, want error) {
	t.Helper()
	if got, e := Gaps(l, size); len(got) != 0 || !errors.Is(e, want) {
		t.Errorf("Gaps(%v, %d) = %v, %v; want %v", l, size, got, e, want)
	}
}

// P3.1
func TestCheck(t *testing.T) {
	expectCheck(t, sp(0, 5), 5, nil)
	expectCheck(t, sp(1, 4), 5, nil)
	expectCheck(t, sp(0, 0), 5, nil)
	expectCheck(t, sp(3, 3), 5, nil)
	expectCheck(t, sp(5, 5), 5, nil)
	expectCheck(t, sp(4, 5), 5, nil)
	expectCheck(t, sp(0, 0), 0, nil)
	expectCheck(t, sp(0, 6), 5, api.ErrRange)
	expectCheck(t, sp(5, 6), 5, api.ErrRange)
	expectCheck(t, sp(6, 6), 5, api.ErrRange)
	expectCheck(t, sp(0, 1), 0, api.ErrRange)
	expectCheck(t, sp(1, 1), 0, api.ErrRange)
	expectCheck(t, sp(-1, 3), 5, api.ErrRange)
	expectCheck(t, sp(-1, 0), 5, api.ErrRange)
	expectCheck(t, sp(-1, -1), 5, api.ErrRange)
	expectCheck(t, sp(-1, 6), 5, api.ErrRange)
	// The order comes first, wherever the ends lie.
	expectCheck(t, sp(3, 2), 5, api.ErrOrder)
	expectCheck(t, sp(1, 0), 5, api.ErrOrder)
	expectCheck(t, sp(1, 0), 0, api.ErrOrder)
	expectCheck(t, sp(6, 5), 5, api.ErrOrder)
	expectCheck(t, sp(7, 6), 5, api.ErrOrder)
	expectCheck(t, sp(0, -1), 5, api.ErrOrder)
	expectCheck(t, sp(-1, -2), 5, api.ErrOrder)
	expectCheck(t, sp(6, -1), 5, api.ErrOrder)
	// No span lies in less than nothing.
	expectCheck(t, sp(0, 0), -1, api.ErrRange)
	expectCheck(t, sp(-1, -1), -1, api.ErrRange)
	expectCheck(t, sp(-3, -2), -1, api.ErrRange)
	expectCheck(t, sp(0, -1), -1, api.ErrOrder)
}

// P3.1: no sum or difference wraps around into an answer.
func TestCheckLargest(t *testing.T) {
	const least, most = math.MinInt, math.MaxInt
	expectCheck(t, sp(0, most), most, nil)
	expectCheck(t, sp(most, most), most, nil)
	expectCheck(t, sp(0, 0), most, nil)
	expectCheck(t, sp(0, most), most-1, api.ErrRange)
	expectCheck(t, sp(most, most), most-1, api.ErrRange)
	expectCheck(t, sp(most, most), least, api.ErrRange)
	expectCheck(t, sp(0, 0), least, api.ErrRange)
	expectCheck(t, sp(least, least), least, api.ErrRange)
	expectCheck(t, sp(least, least), most, api.ErrRange)
	expectCheck(t, sp(least, most), most, api.ErrRange)
	expectCheck(t, sp(least, most), least, api.ErrRange)
	expectCheck(t, sp(least, 0), 0, api.ErrRange)
	expectCheck(t, sp(most, least), most, api.ErrOrder)
	expectCheck(t, sp(most, least), least, api.ErrOrder)
	expectCheck(t, sp(most, most-1), most, api.ErrOrder)
	expectCheck(t, sp(least+1, least), 0, api.ErrOrder)
	expectCheck(t, sp(0, least), 0, api.ErrOrder)
}

// P3.1: all small spans and places, against the offsets counted one by one.
func TestHasEveryOffset(t *testing.T) {
	for _, s := range small() {
		for off := lowest; off <= 6; off++ {
			expectHas(t, s, off, offsets(s)>>(off-lowest)&1 == 1)
		}
	}
}

// P3.1
func TestHas(t *testing.T) {
	const least, most = math.MinInt, math.MaxInt
	expectHas(t, sp(2, 4), 1, false)
	expectHas(t, sp(2, 4), 2, true)
	expectHas(t, sp(2, 4), 3, true)
	expectHas(t, sp(2, 4), 4, false)
	expectHas(t, sp(2, 4), 5, false)
	expectHas(t, sp(2, 2), 2, false)
	expectHas(t, sp(4, 2), 2, false)
	expectHas(t, sp(4, 2), 3, false)
	expectHas(t, sp(4, 2), 4, false)
	expectHas(t, sp(0, 0), 0, false)
	// A span contains its offsets, whether a file has them or not.
	expectHas(t, sp(-3, -1), -3, true)
	expectHas(t, sp(-3, -1), -2, true)
	expectHas(t, sp(-3, -1), -1, false)
	expectHas(t, sp(2, 4), least, false)
	expectHas(t, sp(2, 4), most, false)
	expectHas(t, sp(least, most), least, true)
	expectHas(t, sp(least, most), 0, true)
	expectHas(t, sp(least, most), most-1, true)
	expectHas(t, sp(least, most), most, false)
	expectHas(t, sp(most, most), most, false)
	expectHas(t, sp(least, least), least, false)
	expectHas(t, sp(least, least+1), least, true)
	expectHas(t, sp(most, least), 0, false)
	expectHas(t, sp(most, least), most, false)
	expectHas(t, sp(most, least), least, false)
}

// P3.2
func TestMeet(t *testing.T) {
	const least, most = math.MinInt, math.MaxInt
	none := api.Span{}
	expectMeet(t, sp(1, 5), sp(3, 9), sp(3, 5), true)
	expectMeet(t, sp(1, 5), sp(1, 5), sp(1, 5), true)
	expectMeet(t, sp(1, 9), sp(3, 5), sp(3, 5), true)
	expectMeet(t, sp(1, 9), sp(1, 5), sp(1, 5), true)
	expectMeet(t, sp(1, 9), sp(5, 9), sp(5, 9), true)
	expectMeet(t, sp(1, 4), sp(3, 9), sp(3, 4), true)
	expectMeet(t, sp(-4, 1), sp(-2, 9), sp(-2, 1), true)
	// They touch, or lie apart.
	expectMeet(t, sp(1, 3), sp(3, 9), none, false)
	expectMeet(t, sp(1, 3), sp(5, 9), none, false)
	// An empty span contains nothing, wherever it lies.
	expectMeet(t, sp(1, 9), sp(4, 4), none, false)
	expectMeet(t, sp(1, 9), sp(1, 1), none, false)
	expectMeet(t, sp(1, 9), sp(9, 9), none, false)
	expectMeet(t, sp(1, 9), sp(6, 4), none, false)
	expectMeet(t, sp(9, 1), sp(6, 4), none, false)
	expectMeet(t, sp(4, 4), sp(4, 4), none, false)
	expectMeet(t, none, none, none, false)

	expectMeet(t, sp(least, most), sp(least, most), sp(least, most), true)
	expectMeet(t, sp(least, most), sp(2, 3), sp(2, 3), true)
	expectMeet(t, sp(least, 0), sp(0, most), none, false)
	expectMeet(t, sp(least, 0), sp(-1, most), sp(-1, 0), true)
	expectMeet(t, sp(most, least), sp(least, most), none, false)
	expectMeet(t, sp(least, least+1), sp(most-1, most), none, false)
}

// P3.2: all small spans, against the offsets counted one by one.
func TestMeetEveryPair(t *testing.T) {
	for _, a := range small() {
		for _, b := range small() {
			if both := runs(offsets(a) & offsets(b)); len(both) == 0 {
				expectMeet(t, a, b, api.Span{}, false)
			} else {
				expectMeet(t, a, b, both[0], true)
			}
		}
	}
}

// P3.2
func TestCover(t *testing.T) {
	const least, most = math.MinInt, math.MaxInt
	none := api.Span{}
	expectCover(t, nil, none)
	expectCover(t, []api.Span{}, none)
	expectCover(t, []api.Span{sp(4, 6)}, sp(4, 6))
	expectCover(t, []api.Span{sp(9, 9), sp(4, 6), sp(1, 2)}, sp(1, 6))
	expectCover(t, []api.Span{sp(1, 2), sp(4, 6)}, sp(1, 6))
	expectCover(t, []api.Span{sp(1, 9), sp(4, 6)}, sp(1, 9))
	expectCover(t, []api.Span{sp(4, 6), sp(1, 9)}, sp(1, 9))
	expectCover(t, []api.Span{sp(4, 6), sp(6, 7)}, sp(4, 7))
	expectCover(t, []api.Span{sp(4, 6), sp(4, 6), sp(4, 6)}, sp(4, 6))
	expectCover(t, []api.Span{sp(-9, -8), sp(-4, -2)}, sp(-9, -2))
	// Empty spans count nowhere: not the first, not the last, not the widest.
	expectCover(t, []api.Span{sp(0, 0)}, none)
	expectCover(t, []api.Span{sp(5, 5)}, none)
	expectCover(t, []api.Span{sp(7, 3)}, none)
	expectCover(t, []api.Span{sp(5, 5), sp(9, 9)}, none)
	expectCover(t, []api.Span{sp(0, 0), sp(4, 6)}, sp(4, 6))
	expectCover(t, []api.Span{sp(4, 6), sp(0, 0)}, sp(4, 6))
	expectCover(t, []api.Span{sp(9, 1), sp(4, 6), sp(9, 1)}, sp(4, 6))
	expectCover(t, []api.Span{sp(4, 6), sp(9, 9), sp(1, 2), sp(-3, -3)}, sp(1, 6))

	expectCover(t, []api.Span{sp(least, least+1), sp(most-1, most)}, sp(least, most))
	expectCover(t, []api.Span{sp(most-1, most), sp(most, least)}, sp(most-1, most))
	expectCover(t, []api.Span{sp(most, most), sp(least, least)}, none)
	if Cover() != none {
		t.Errorf("Cover() = %v", Cover())
	}
}

// P3.2: all lists of three small spans, against the offsets counted one by one.
func TestCoverEveryTriple(t *testing.T) {
	triples(func(l []api.Span) {
		var want api.Span
		if set := offsets(l...); set != 0 {
			want = sp(bits.TrailingZeros(set)+lowest, bits.Len(set)+lowest)
		}
		expectCover(t, l, want)
	})
}

// P3.3
func TestOrder(t *testing.T) {
	const least, most = math.MinInt, math.MaxInt
	expectOrder(t, sp(1, 5), sp(1, 5), 0)
	expectOrder(t, sp(1, 5), sp(2, 3), -1)
	expectOrder(t, sp(1, 5), sp(2, 5), -1)
	expectOrder(t, sp(1, 5), sp(1, 9), -1)
	expectOrder(t, sp(1, 1), sp(1, 2), -1)
	expectOrder(t, sp(1, 0), sp(1, 1), -1)
	expectOrder(t, sp(-1, 9), sp(0, 0), -1)
	expectOrder(t, sp(3, -2), sp(3, -1), -1)
	expectOrder(t, api.Span{}, api.Span{}, 0)
	// A difference would wrap around.
	expectOrder(t, sp(least, 0), sp(most, 0), -1)
	expectOrder(t, sp(least, 0), sp(1, 0), -1)
	expectOrder(t, sp(-2, 0), sp(most, 0), -1)
	expectOrder(t, sp(0, least), sp(0, most), -1)
	expectOrder(t, sp(0, -2), sp(0, most), -1)
	expectOrder(t, sp(least, most), sp(least, most), 0)
	expectOrder(t, sp(most, least), sp(most, least), 0)
}

// P3.3: small lists the spans by From and then by To.
func TestOrderEveryPair(t *testing.T) {
	l := small()
	for i, a := range l {
		expectOrder(t, a, a, 0)
		for _, b := range l[i+1:] {
			expectOrder(t, a, b, -1)
		}
	}
}

// P3.3
func TestSort(t *testing.T) {
	const least, most = math.MinInt, math.MaxInt
	expectSort(t, nil, nil)
	expectSort(t, []api.Span{}, nil)
	expectSort(t, []api.Span{sp(7, 3)}, []api.Span{sp(7, 3)})
	expectSort(t, []api.Span{sp(3, 4), sp(1, 9), sp(1, 2)}, []api.Span{sp(1, 2), sp(1, 9), sp(3, 4)})
	// Nothing is left out and nothing joined: equal, empty, touching and wrong spans stay.
	expectSort(t, []api.Span{sp(3, 4), sp(2, 3), sp(3, 4), sp(2, 2), sp(-1, 5), sp(2, 1)},
		[]api.Span{sp(-1, 5), sp(2, 1), sp(2, 2), sp(2, 3), sp(3, 4), sp(3, 4)})
	expectSort(t, []api.Span{sp(most, least), sp(0, most), sp(0, least), sp(least, 0)},
		[]api.Span{sp(least, 0), sp(0, least), sp(0, most), sp(most, least)})
}

// P3.3: all lists of three small spans; small lists the spans in order.
func TestSortEveryTriple(t *testing.T) {
	l := small()
	for a := range l {
		for b := range l {
			for c := range l {
				n := []int{a, b, c}
				slices.Sort(n)
				expectSort(t, []api.Span{l[a], l[b], l[c]}, []api.Span{l[n[0]], l[n[1]], l[n[2]]})
			}
		}
	}
}

// P3.4
func TestMerge(t *testing.T) {
	const least, most = math.MinInt, math.MaxInt
	expectMerge(t, nil, nil)
	expectMerge(t, []api.Span{}, nil)
	expectMerge(t, []api.Span{sp(3, 5), sp(1, 3), sp(7, 7)}, []api.Span{sp(1, 5)})
	expectMerge(t, []api.Span{sp(8, 9), sp(1, 3), sp(2, 4), sp(4, 5)}, []api.Span{sp(1, 5), sp(8, 9)})
	expectMerge(t, []api.Span{sp(4, 5), sp(1, 2)}, []api.Span{sp(1, 2), sp(4, 5)})
	expectMerge(t, []api.Span{sp(1, 2), sp(3, 4)}, []api.Span{sp(1, 2), sp(3, 4)})
	expectMerge(t, []api.Span{sp(2, 4), sp(2, 4), sp(2, 4)}, []api.Span{sp(2, 4)})
	// The longest one comes first in order: what lies in it doesn't shorten it.
	expectMerge(t, []api.Span{sp(1, 9), sp(2, 3), sp(5, 6), sp(8, 12)}, []api.Span{sp(1, 12)})
	expectMerge(t, []api.Span{sp(1, 9), sp(2, 3), sp(7, 8)}, []api.Span{sp(1, 9)})
	expectMerge(t, []api.Span{sp(1, 2), sp(1, 9), sp(1, 4)}, []api.Span{sp(1, 9)})
	expectMerge(t, []api.Span{sp(5, 9), sp(1, 9)}, []api.Span{sp(1, 9)})
	// An empty span neither stands by itself nor joins what lies about it.
	expectMerge(t, []api.Span{sp(7, 7)}, nil)
	expectMerge(t, []api.Span{sp(7, 3)}, nil)
	expectMerge(t, []api.Span{sp(1, 2), sp(2, 2), sp(3, 3), sp(3, 4), sp(5, 5)}, []api.Span{sp(1, 2), sp(3, 4)})
	expectMerge(t, []api.Span{sp(1, 2), sp(3, 2), sp(3, 1), sp(4, 1), sp(5, 6)}, []api.Span{sp(1, 2), sp(5, 6)})
	// Merge knows no file: offsets below 0 are offsets as well.
	expectMerge(t, []api.Span{sp(-1, 2), sp(-4, -3), sp(-3, -2)}, []api.Span{sp(-4, -2), sp(-1, 2)})

	expectMerge(t, []api.Span{sp(0, most), sp(least, 0)}, []api.Span{sp(least, most)})
	expectMerge(t, []api.Span{sp(most-1, most), sp(least, least+1)}, []api.Span{sp(least, least+1), sp(most-1, most)})
	expectMerge(t, []api.Span{sp(1, most), sp(least, 0)}, []api.Span{sp(least, 0), sp(1, most)})
	expectMerge(t, []api.Span{sp(most, least), sp(most, most), sp(least, least)}, nil)
}

// P3.4: all lists of three small spans, against the offsets counted one by one.
func TestMergeEveryTriple(t *testing.T) {
	triples(func(l []api.Span) {
		expectMerge(t, l, runs(offsets(l...)))
	})
}

// P3.4
func TestGaps(t *testing.T) {
	expectGaps(t, []api.Span{sp(3, 5), sp(1, 3), sp(7, 7)}, 8, []api.Span{sp(0, 1), sp(5, 8)})
	expectGaps(t, []api.Span{sp(8, 9), sp(1, 3)}, 10, []api.Span{sp(0, 1), sp(3, 8), sp(9, 10)})
	expectGaps(t, nil, 5, []api.Span{sp(0, 5)})
	expectGaps(t, []api.Span{}, 1, []api.Span{sp(0, 1)})
	expectGaps(t, []api.Span{sp(0, 5)}, 5, nil)
	expectGaps(t, []api.Span{sp(0, 2), sp(2, 5)}, 5, nil)
	expectGaps(t, []api.Span{sp(0, 2)}, 5, []api.Span{sp(2, 5)})
	expectGaps(t, []api.Span{sp(2, 5)}, 5, []api.Span{sp(0, 2)})
	expectGaps(t, []api.Span{sp(2, 4), sp(2, 4)}, 5, []api.Span{sp(0, 2), sp(4, 5)})
	expectGaps(t, []api.Span{sp(0, 4), sp(1, 2)}, 5, []api.Span{sp(4, 5)})
	// An empty span leaves the gap that it lies in as one.
	expectGaps(t, []api.Span{sp(0, 0), sp(3, 3), sp(5, 5)}, 5, []api.Span{sp(0, 5)})
	expectGaps(t, []api.Span{sp(0, 0)}, 0, nil)
	expectGaps(t, nil, 0, nil)
	// No span of the list is at fault, and no offset is below a negative size.
	expectGaps(t, nil, -1, nil)
	expectGaps(t, []api.Span{}, math.MinInt, nil)

	const most = math.MaxInt
	expectGaps(t, nil, most, []api.Span{sp(0, most)})
	expectGaps(t, []api.Span{sp(0, most)}, most, nil)
	expectGaps(t, []api.Span{sp(most, most)}, most, []api.Span{sp(0, most)})
	expectGaps(t, []api.Span{sp(most-1, most), sp(0, 1)}, most, []api.Span{sp(1, most-1)})
}

// P3.4: the first span of the list that is at fault tells the error, not the first one in order.
func TestGapsFault(t *testing.T) {
	const least, most = math.MinInt, math.MaxInt
	expectNoGaps(t, []api.Span{sp(3, 1)}, 10, api.ErrOrder)
	expectNoGaps(t, []api.Span{sp(-1, 1)}, 10, api.ErrRange)
	expectNoGaps(t, []api.Span{sp(9, 11)}, 10, api.ErrRange)
	expectNoGaps(t, []api.Span{sp(11, 11)}, 10, api.ErrRange)
	expectNoGaps(t, []api.Span{sp(-1, -1)}, 10, api.ErrRange)
	expectNoGaps(t, []api.Span{sp(12, -1)}, 10, api.ErrOrder)
	expectNoGaps(t, []api.Span{sp(1, 2), sp(4, 6), sp(3, 11)}, 10, api.ErrRange)
	expectNoGaps(t, []api.Span{sp(1, 2), sp(4, 6), sp(5, 4)}, 10, api.ErrOrder)
	expectNoGaps(t, []api.Span{sp(1, 2), sp(3, 11), sp(2, 1)}, 10, api.ErrRange)
	expectNoGaps(t, []api.Span{sp(1, 2), sp(9, 8), sp(-1, 2)}, 10, api.ErrOrder)
	expectNoGaps(t, []api.Span{sp(0, 10), sp(3, 1)}, 10, api.ErrOrder)
	expectNoGaps(t, []api.Span{sp(0, 0), sp(0, 1)}, 0, api.ErrRange)
	expectNoGaps(t, []api.Span{sp(0, 0)}, -1, api.ErrRange)
	expectNoGaps(t, []api.Span{sp(0, 0), sp(1, 0)}, -1, api.ErrRange)
	expectNoGaps(t, []api.Span{sp(1, 0), sp(0, 0)}, -1, api.ErrOrder)
	expectNoGaps(t, []api.Span{sp(0, most)}, most-1, api.ErrRange)
	expectNoGaps(t, []api.Span{sp(least, most)}, most, api.ErrRange)
	expectNoGaps(t, []api.Span{sp(most, least)}, most, api.ErrOrder)
	expectNoGaps(t, []api.Span{sp(0, 0)}, least, api.ErrRange)
	expectNoGaps(t, []api.Span{sp(least, least)}, least, api.ErrRange)
}

// P3.4, P3.5: all lists of three small spans with all small sizes, against the offsets counted one by one.
func TestGapsEveryTriple(t *testing.T) {
	triples(func(l []api.Span) {
		for size := -1; size <= 5; size++ {
			wrong := slices.IndexFunc(l, func(s api.Span) bool { return Check(s, size) != nil })
			if wrong < 0 {
				expectGaps(t, l, size, runs(offsets(sp(0, size))&^offsets(l...)))
			} else {
				expectNoGaps(t, l, size, Check(l[wrong], size))
			}
		}
	})
}

// P3.4, P3.5: all sets of the spans within 0 to 4, in order and back.
func TestPartition(t *testing.T) {
	const size = 6
	all := within()
	for set := range 1 << len(all) {
		var l []api.Span
		for i, s := range all {
			if set>>i&1 == 1 {
				l = append(l, s)
			}
		}
		for range 2 {
			slices.Reverse(l)
			merged := Merge(l)
			gaps, e := Gaps(l, size)
			if e != nil || !slices.Equal(merged, runs(offsets(l...))) {
				t.Fatalf("Merge(%v) = %v, Gaps: %v", l, merged, e)
			}
			if offsets(merged...)&offsets(gaps...) != 0 || offsets(merged...)|offsets(gaps...) != offsets(sp(0, size)) {
				t.Fatalf("Merge(%v) = %v, Gaps = %v", l, merged, gaps)
			}
		}
	}
}

// stretch puts the largest numbers in the place of small ones: it keeps the order of -3 to 3, and 0.
func stretch(n int) int {
	return [...]int{math.MinInt, math.MinInt + 1, -1, 0, 1, math.MaxInt - 1, math.MaxInt}[n+3]
}

func stretched(l ...api.Span) []api.Span {
	var out []api.Span
	for _, s := range l {
		out = append(out, sp(stretch(s.From), stretch(s.To)))
	}
	return out
}

// P3.1 to P3.4: the answers depend on the order of the numbers only, so that the largest ones are as good as small ones.
func TestStretched(t *testing.T) {
	for n := range 7 * 7 * 7 * 7 {
		a, b := sp(n%7-3, n/7%7-3), sp(n/49%7-3, n/343-3)
		wide := stretched(a, b)
		if m, is := Meet(a, b); is {
			expectMeet(t, wide[0], wide[1], stretched(m)[0], true)
		} else {
			expectMeet(t, wide[0], wide[1], api.Span{}, false)
		}
		expectCover(t, wide, stretched(Cover(a, b))[0])
		expectOrder(t, wide[0], wide[1], Order(a, b))
		expectSort(t, wide, stretched(Sort([]api.Span{a, b})...))
		expectMerge(t, wide, stretched(Merge([]api.Span{a, b})...))
		for k := -3; k <= 3; k++ {
			expectHas(t, wide[0], stretch(k), Has(a, k))
			expectCheck(t, wide[0], stretch(k), Check(a, k))
			if gaps, e := Gaps([]api.Span{a, b}, k); e != nil {
				expectNoGaps(t, wide, stretch(k), e)
			} else {
				expectGaps(t, wide, stretch(k), stretched(gaps...))
			}
		}
	}
}

// P3.3, P3.4: of a long list, in an order that is none.
func TestLong(t *testing.T) {
	const n = 1 << 16
	var l, sorted, gaps []api.Span
	for i := range n {
		// An odd factor visits each number below n once.
		at := i * 40503 % n
		l = append(l, sp(2*at, 2*at+1))
		sorted = append(sorted, sp(2*i, 2*i+1))
		gaps = append(gaps, sp(2*i+1, 2*i+2))
	}
	if !slices.Equal(Sort(l), sorted) {
		t.Error("Sort")
	}
	if !slices.Equal(Merge(l), sorted) {
		t.Error("Merge")
	}
	if got, e := Gaps(l, 2*n); e != nil || !slices.Equal(got, gaps) {
		t.Error("Gaps", e)
	}
	if got := Merge(append(gaps, l...)); !slices.Equal(got, []api.Span{sp(0, 2*n)}) {
		t.Error("Merge of both", len(got))
	}
}

// P3.2 to P3.4, with rule 4: no call changes its list, and no answer shares memory with it or with another answer.
func TestMemory(t *testing.T) {
	for _, given := range [][]api.Span{
		{sp(2, 4)},
		{sp(1, 2), sp(4, 6)},
		{sp(3, 5), sp(1, 3), sp(7, 7), sp(1, 2)},
		{sp(8, 9), sp(0, 0), sp(1, 3), sp(2, 4)},
	} {
		// Room behind the list must not be written to either.
		l := append(slices.Clone(given), sp(90, 91), sp(92, 93))[:len(given)]
		whole := slices.Clone(l[:len(given)+2])
		Cover(l...)
		sorted, merged := Sort(l), Merge(l)
		gaps, _ := Gaps(l, 10)
		if !slices.Equal(l[:len(given)+2], whole) {
			t.Errorf("%v changed to %v", whole, l[:len(given)+2])
		}
		clear(Sort(l))
		clear(Merge(l))
		other, _ := Gaps(l, 10)
		clear(other)
		if !slices.Equal(l, given) {
			t.Errorf("%v changed to %v with an answer", given, l)
		}
		wantSorted, wantMerged, wantGaps := slices.Clone(sorted), slices.Clone(merged), slices.Clone(gaps)
		clear(l)
		if !slices.Equal(sorted, wantSorted) || !slices.Equal(merged, wantMerged) || !slices.Equal(gaps, wantGaps) {
			t.Errorf("answers for %v changed to %v, %v, %v with their list", given, sorted, merged, gaps)
		}
	}
}
