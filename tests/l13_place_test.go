package tests

import (
	"slices"
	"testing"

	"loop.example/g00361/impl"
)

// Chapter 13, function by function. That what is spread is even, and that no even
// places need fewer moves, stands in l13_even_test.go.

// wantPlaces holds all answers of places against what the plain words tell.
func wantPlaces(t *testing.T, why string, homes int, at []int, gone []int) {
	t.Helper()
	if got := impl.GoodPlaces(homes, at); got != plainPlacesGood(homes, at) {
		t.Errorf("%s: GoodPlaces %d %v: %v", why, homes, at, got)
	}
	loads, wanted := plainLoads(homes, at)
	if got, ok := impl.LoadsOf(homes, at); !slices.Equal(got, loads) || ok != wanted {
		t.Errorf("%s: LoadsOf %d %v: %v %v", why, homes, at, got, ok)
	}
	even, wanted := plainEven(homes, at)
	if got, ok := impl.IsEven(homes, at); got != even || ok != wanted {
		t.Errorf("%s: IsEven %d %v: %v %v", why, homes, at, got, ok)
	}
	spread, wanted := plainSpread(homes, at)
	if got, ok := impl.SpreadEven(homes, at); !slices.Equal(got, spread) || ok != wanted {
		t.Errorf("%s: SpreadEven %d %v: %v %v", why, homes, at, got, ok)
	}
	fewest, wanted := plainFewest(homes, at)
	if got, ok := impl.FewestMoves(homes, at); got != fewest || ok != wanted {
		t.Errorf("%s: FewestMoves %d %v: %v %v", why, homes, at, got, ok)
	}
	for _, k := range gone {
		want, wanted := plainDrop(homes, at, k)
		if got, ok := impl.DropHome(homes, at, k); !slices.Equal(got, want) || ok != wanted {
			t.Errorf("%s: DropHome %d %v %d: %v %v", why, homes, at, k, got, ok)
		}
	}
}

// wantMoves does so of two lists, either way round.
func wantMoves(t *testing.T, why string, a, b []int) {
	t.Helper()
	for range 2 {
		want, wanted := plainMoves(a, b)
		if got, ok := impl.MovesTo(a, b); got != want || ok != wanted {
			t.Errorf("%s: MovesTo %v %v: %v %v", why, a, b, got, ok)
		}
		a, b = b, a
	}
}

// wantRacks does so of racks, with each of these numbers of copies and these lists.
func wantRacks(t *testing.T, why string, racks []int, copies []int, lists [][][]int) {
	t.Helper()
	for _, n := range copies {
		want, wanted := plainRacks(racks, n)
		if got, ok := impl.RacksOf(racks, n); !sameLists(got, want) || ok != wanted {
			t.Errorf("%s: RacksOf %v %d: %v %v", why, racks, n, got, ok)
		}
	}
	for _, l := range lists {
		want, wanted := plainSafe(racks, l)
		if got, ok := impl.RackSafe(racks, l); got != want || ok != wanted {
			t.Errorf("%s: RackSafe %v %v: %v %v", why, racks, l, got, ok)
		}
	}
}

func TestTheNamedNumbersOfPlaces(t *testing.T) {
	if impl.MaxHomes != 6 || impl.MaxItems != 16 {
		t.Error(impl.MaxHomes, impl.MaxItems)
	}
}

type places struct {
	homes int
	at    []int
}

func placesOf(homes int, at ...int) places {
	return places{homes: homes, at: at}
}

func somePlaces() map[string]places {
	return map[string]places{
		"one home, no item":           placesOf(1),
		"a list of none":              {homes: 3, at: []int{}},
		"as many homes, no item":      placesOf(6),
		"one at none":                 placesOf(1, -1),
		"one at its home":             placesOf(1, 0),
		"one at the last home":        placesOf(6, 5),
		"as many items at one":        {homes: 1, at: make([]int, 16)},
		"as many items at the last":   {homes: 6, at: slices.Repeat([]int{5}, 16)},
		"as many items at none":       {homes: 6, at: slices.Repeat([]int{-1}, 16)},
		"as many items, even":         placesOf(6, 0, 1, 2, 3, 4, 5, 0, 1, 2, 3, 4, 5, 0, 1, 2, 3),
		"as many items, the last":     placesOf(6, 0, 1, 2, 3, 4, 5, 0, 1, 2, 3, 4, 5, 5, 4, 3, 2),
		"the named ones":              placesOf(3, 0, 0, 0, 0, 1, -1, 1),
		"at none between":             placesOf(4, 3, -1, 3, -1, 0, -1, 3),
		"the last home has all":       placesOf(3, 2, 2, 2, 2, 2),
		"fewer items than homes":      placesOf(6, 4, 4, -1),
		"the greater load is behind":  placesOf(3, 0, 1, 2, 2),
		"as many items as homes":      placesOf(6, 0, 0, 0, 5, 5, 5),
		"loads that fall":             placesOf(4, 0, 0, 0, 0, 1, 1, 1, 2, 2, 3),
		"loads that rise":             placesOf(4, 0, 1, 1, 2, 2, 2, 3, 3, 3, 3),
		"two that both have too many": placesOf(4, 3, 1, 3, 1, 3, 1, 3, 1, 1),
	}
}

// badPlaces are not good, each by one thing.
func badPlaces() map[string]places {
	return map[string]places{
		"zero":                     {},
		"no home, an item":         placesOf(0, -1),
		"no home, one at 0":        placesOf(0, 0),
		"homes below 0":            placesOf(-1),
		"below 0, one at none":     placesOf(-1, -1),
		"one home too many":        placesOf(7),
		"too many, all at one":     placesOf(7, 0, 0),
		"one item too many":        {homes: 6, at: make([]int, 17)},
		"one too many at none":     {homes: 1, at: slices.Repeat([]int{-1}, 17)},
		"an item at -2":            placesOf(3, -2),
		"at -2, the last":          placesOf(3, 0, 1, 2, -2),
		"one behind the last home": placesOf(3, 3),
		"behind, the first":        placesOf(3, 3, 0, 1),
		"behind, in the middle":    placesOf(1, 0, 1, 0),
		"behind all homes":         placesOf(6, 6),
	}
}

func TestGoodPlaces(t *testing.T) {
	for why, p := range somePlaces() {
		if !impl.GoodPlaces(p.homes, p.at) {
			t.Error(why)
		}
		wantPlaces(t, why, p.homes, p.at, steps(10, -2, 1))
	}
	for homes := 1; homes <= 6; homes++ {
		for items := range 17 {
			for k := -1; k < homes; k++ {
				if !impl.GoodPlaces(homes, slices.Repeat([]int{k}, items)) {
					t.Error(homes, items, k)
				}
			}
		}
	}
}

func TestBadPlaces(t *testing.T) {
	for why, p := range badPlaces() {
		if impl.GoodPlaces(p.homes, p.at) {
			t.Error(why)
		}
		if l, ok := impl.LoadsOf(p.homes, p.at); len(l) != 0 || ok {
			t.Error(why, l, ok)
		}
		if is, ok := impl.IsEven(p.homes, p.at); is || ok {
			t.Error(why, is, ok)
		}
		if l, ok := impl.SpreadEven(p.homes, p.at); len(l) != 0 || ok {
			t.Error(why, l, ok)
		}
		if n, ok := impl.FewestMoves(p.homes, p.at); n != 0 || ok {
			t.Error(why, n, ok)
		}
		if l, ok := impl.DropHome(p.homes, p.at, 0); len(l) != 0 || ok {
			t.Error(why, l, ok)
		}
		wantPlaces(t, why, p.homes, p.at, steps(10, -2, 1))
	}
}

func TestEachNumberOfHomesItemsAndPlaces(t *testing.T) {
	for homes := -2; homes <= 9; homes++ {
		for items := range 20 {
			good := homes >= 1 && homes <= 6 && items <= 16
			if impl.GoodPlaces(homes, slices.Repeat([]int{-1}, items)) != good {
				t.Error(homes, items)
			}
			for k := -3; k <= 9; k++ {
				at := slices.Repeat([]int{-1}, items)
				for i := range at {
					at[i] = k
					if impl.GoodPlaces(homes, at) != (good && k >= -1 && k < homes) {
						t.Error(homes, at)
					}
					at[i] = -1
				}
			}
		}
	}
}

func TestLoadsOf(t *testing.T) {
	for _, c := range []struct {
		places
		want []int
	}{
		{placesOf(1), []int{0}},
		{placesOf(6), []int{0, 0, 0, 0, 0, 0}},
		{placesOf(2, -1, -1, -1), []int{0, 0}},
		{placesOf(2, 0, 0, -1), []int{2, 0}},
		{placesOf(4, 3, 1, 3, -1, 3), []int{0, 1, 0, 3}},
		{placesOf(6, 5, 4, 3, 2, 1, 0, 5), []int{1, 1, 1, 1, 1, 2}},
		{places{6, slices.Repeat([]int{5}, 16)}, []int{0, 0, 0, 0, 0, 16}},
		{places{1, make([]int, 16)}, []int{16}},
	} {
		if l, ok := impl.LoadsOf(c.homes, c.at); !slices.Equal(l, c.want) || !ok {
			t.Error(c.places, l, ok)
		}
	}
}

func TestIsEven(t *testing.T) {
	for why, c := range map[string]struct {
		places
		want bool
	}{
		"no item":                   {placesOf(1), true},
		"no item, many homes":       {placesOf(6), true},
		"one at none":               {placesOf(1, -1), false},
		"one of some at none":       {placesOf(2, 0, 1, -1), false},
		"the first at none":         {placesOf(2, -1, 0, 1), false},
		"all at none":               {placesOf(2, -1, -1), false},
		"all the same":              {placesOf(3, 2, 1, 0), true},
		"one more at the first":     {placesOf(3, 0, 1, 2, 0), true},
		"one more at the last":      {placesOf(3, 0, 1, 2, 2), true},
		"one alone":                 {placesOf(6, 3), true},
		"two more than none":        {placesOf(2, 1, 1), false},
		"two more":                  {placesOf(2, 0, 0, 0, 1), false},
		"two more, the last":        {placesOf(3, 0, 0, 1, 1, 2, 2, 2, 2), false},
		"two more than the last":    {placesOf(3, 0, 0, 0, 1, 1, 1, 2), false},
		"two more than the middle":  {placesOf(3, 0, 0, 2, 2), false},
		"one and one, two together": {placesOf(3, 0, 1, 1, 2, 2, 2), false},
		"all at the only home":      {places{1, make([]int, 16)}, true},
		"as many as may be":         {placesOf(6, 0, 1, 2, 3, 4, 5, 0, 1, 2, 3, 4, 5, 5, 4, 3, 2), true},
	} {
		if is, ok := impl.IsEven(c.homes, c.at); is != c.want || !ok {
			t.Error(why, is, ok)
		}
	}
}

func TestSpreadEven(t *testing.T) {
	for why, c := range map[string]struct {
		places
		want []int
	}{
		"no item":                         {placesOf(3), nil},
		"one home":                        {placesOf(1, -1, 0, -1), []int{0, 0, 0}},
		"nothing moves":                   {placesOf(3, 2, 1, 0, 1), []int{2, 1, 0, 1}},
		"at none alone":                   {placesOf(3, -1, -1, -1, -1), []int{0, 0, 1, 2}},
		"at none, nothing over":           {placesOf(2, -1, -1, -1, -1), []int{0, 0, 1, 1}},
		"the same loads":                  {placesOf(3, 2, 1, 0, -1), []int{2, 1, 0, 0}},
		"the same loads, two over":        {placesOf(3, 2, 1, 0, -1, -1), []int{2, 1, 0, 0, 1}},
		"a greater load behind":           {placesOf(3, 0, 1, 2, 2), []int{0, 1, 2, 2}},
		"a greater load behind has it":    {placesOf(3, 0, 2, 2, -1), []int{0, 2, 2, 1}},
		"two greater ones behind":         {placesOf(4, 3, 3, 2, 2, 0, -1), []int{3, 3, 2, 2, 0, 1}},
		"of greater ones the first":       {placesOf(3, 1, 1, 1, 2, 2, 2, -1), []int{1, 1, 1, 2, 2, 0, 0}},
		"the last items go":               {placesOf(3, 0, 0, 0, 0, 1, -1, 1), []int{0, 0, 0, 2, 1, 2, 1}},
		"last items of two homes":         {placesOf(3, 2, 0, 2, 0, 2, 0), []int{2, 0, 2, 0, 1, 1}},
		"those that go come by order":     {placesOf(3, 1, 1, 1, 1, -1, 1), []int{1, 1, 0, 0, 2, 2}},
		"a home gives up its last item":   {placesOf(3, 0, 0, 0, 2, 1), []int{0, 0, 1, 2, 1}},
		"a home gives up its last items":  {placesOf(3, 1, 0, 0, 1, 0, 0), []int{1, 0, 0, 1, 2, 2}},
		"fewer items than homes":          {placesOf(6, -1, -1), []int{0, 1}},
		"fewer, at the last ones":         {placesOf(6, 5, 4, 5), []int{5, 4, 0}},
		"fewer, all at the last":          {placesOf(6, 5, 5, 5), []int{5, 0, 1}},
		"fewer, one at a last home":       {placesOf(6, 4, -1), []int{4, 0}},
		"all at the last, as many":        {placesOf(3, 2, 2, 2), []int{2, 0, 1}},
		"room for one more is not filled": {placesOf(2, 1, -1, -1), []int{1, 0, 1}},
	} {
		if l, ok := impl.SpreadEven(c.homes, c.at); !slices.Equal(l, c.want) || !ok {
			t.Error(why, l, ok)
		}
	}
}

func TestFewestMoves(t *testing.T) {
	for why, c := range map[string]struct {
		places
		want int
	}{
		"no item":                     {placesOf(6), 0},
		"even":                        {placesOf(3, 2, 1, 0, 2), 0},
		"one at none":                 {placesOf(3, 2, 1, 0, -1), 1},
		"all at none":                 {places{6, slices.Repeat([]int{-1}, 16)}, 16},
		"all at one of six":           {places{6, slices.Repeat([]int{3}, 16)}, 13},
		"all at one of two":           {places{2, slices.Repeat([]int{1}, 16)}, 8},
		"two more":                    {placesOf(2, 0, 0, 0, 1), 1},
		"at none and too many":        {placesOf(3, 0, 0, 0, 0, 1, -1, 1), 2},
		"a greater load keeps one":    {placesOf(3, 1, 2, 2, -1), 1},
		"two at the last of six":      {placesOf(6, 5, 5), 1},
		"three greater, room for two": {placesOf(4, 1, 1, 2, 2, 3, 3), 1},
	} {
		if n, ok := impl.FewestMoves(c.homes, c.at); n != c.want || !ok {
			t.Error(why, n, ok)
		}
	}
}

func TestMovesTo(t *testing.T) {
	long := steps(100000, -1, 1)
	other := slices.Clone(long)
	other[0], other[17], other[99999] = 0, -1, -1
	below := slices.Clone(long)
	below[99999] = -2
	for why, c := range map[string]struct {
		a, b []int
		many int
		ok   bool
	}{
		"none":                       {nil, nil, 0, true},
		"none and a list of none":    {nil, []int{}, 0, true},
		"two alike":                  {[]int{0, -1, 5}, []int{0, -1, 5}, 0, true},
		"one elsewhere":              {[]int{0, 1, 2}, []int{0, 2, 2}, 1, true},
		"from none":                  {[]int{-1, 1}, []int{0, 1}, 1, true},
		"all elsewhere":              {[]int{0, 1, 2}, []int{1, 2, 0}, 3, true},
		"two changed round":          {[]int{0, 1, 2}, []int{1, 0, 2}, 2, true},
		"one more than MaxItems":     {make([]int, 17), slices.Repeat([]int{1}, 17), 17, true},
		"behind all homes":           {[]int{6, 1 << 40}, []int{6, 7}, 1, true},
		"long ones":                  {long, other, 3, true},
		"long ones, alike":           {long, slices.Clone(long), 0, true},
		"one list, twice":            {long, long, 0, true},
		"long ones, one below":       {long, below, 0, false},
		"not as long":                {[]int{0}, []int{0, 0}, 0, false},
		"none and one":               {nil, []int{-1}, 0, false},
		"long ones, not as long":     {long, long[1:], 0, false},
		"one below -1":               {[]int{-2}, []int{0}, 0, false},
		"both below -1, alike":       {[]int{-2}, []int{-2}, 0, false},
		"one below, the last":        {[]int{0, 1, 2}, []int{0, 1, -2}, 0, false},
		"one below, behind a change": {[]int{0, -2}, []int{1, -2}, 0, false},
	} {
		if n, ok := impl.MovesTo(c.a, c.b); n != c.many || ok != c.ok {
			t.Error(why, n, ok)
		}
		if n, ok := impl.MovesTo(c.b, c.a); n != c.many || ok != c.ok {
			t.Error(why, "turned round", n, ok)
		}
	}
}

func TestDropHome(t *testing.T) {
	for why, c := range map[string]struct {
		places
		gone int
		want []int
	}{
		"the named one":                 {placesOf(3, 0, 1, 2, 2), 2, []int{0, 1, 0, 1}},
		"no item":                       {placesOf(2), 0, nil},
		"one of two":                    {placesOf(2, 0, 1, 0, -1), 0, []int{1, 1, 1, 1}},
		"the other of two":              {placesOf(2, 0, 1, 0, -1), 1, []int{0, 0, 0, 0}},
		"without items":                 {placesOf(3, 0, 2), 1, []int{0, 2}},
		"without items, not even":       {placesOf(3, 0, 0, 0, 2), 1, []int{0, 0, 2, 2}},
		"with all":                      {placesOf(3, 1, 1, 1), 1, []int{0, 0, 2}},
		"the first, with all":           {placesOf(3, 0, 0, 0), 0, []int{1, 1, 2}},
		"the last, with all":            {placesOf(3, 2, 2, 2), 2, []int{0, 0, 1}},
		"the first":                     {placesOf(3, 0, 1, 2, 0), 0, []int{1, 1, 2, 2}},
		"the last":                      {placesOf(3, 2, 1, 0, 2), 2, []int{0, 1, 0, 1}},
		"a greater load keeps one more": {placesOf(3, 0, 1, 2, 2, -1), 1, []int{0, 0, 2, 2, 2}},
		"its own load does not count":   {placesOf(4, 0, 0, 0, 3, 1, 2, -1), 0, []int{1, 1, 2, 3, 1, 2, 3}},
		"others give up some, too":      {placesOf(3, 1, 1, 1, 1, 0, -1), 0, []int{1, 1, 1, 2, 2, 2}},
		"fewer items than are left":     {placesOf(6, 0, 0), 0, []int{1, 2}},
		"one at none":                   {placesOf(2, -1), 0, []int{1}},
	} {
		if l, ok := impl.DropHome(c.homes, c.at, c.gone); !slices.Equal(l, c.want) || !ok {
			t.Error(why, l, ok)
		}
	}
}

func TestHomesThatCannotBeDropped(t *testing.T) {
	for why, c := range map[string]struct {
		places
		gone int
	}{
		"one home alone":           {placesOf(1, 0, 0), 0},
		"one home, no item":        {placesOf(1), 0},
		"one home, another gone":   {placesOf(1), 1},
		"the home -1":              {placesOf(3, 0, 1, 2), -1},
		"the home -1, one at none": {placesOf(3, 0, 1, -1), -1},
		"one behind the last":      {placesOf(3, 0, 1, 2), 3},
		"behind all":               {placesOf(6, 0, 1, 2), 6},
	} {
		if l, ok := impl.DropHome(c.homes, c.at, c.gone); len(l) != 0 || ok {
			t.Error(why, l, ok)
		}
	}
}

func TestRacksOf(t *testing.T) {
	for why, c := range map[string]struct {
		racks  []int
		copies int
		want   [][]int
	}{
		"one home":                      {[]int{3}, 1, [][]int{{0}}},
		"one copy":                      {[]int{0, 0, 1}, 1, [][]int{{0}, {1}, {2}}},
		"as many copies as homes":       {[]int{0, 0}, 2, [][]int{{0, 1}, {0, 1}}},
		"three of three":                {[]int{2, 2, 2}, 3, [][]int{{0, 1, 2}, {0, 1, 2}, {0, 1, 2}}},
		"the named one":                 {[]int{0, 0, 1, 2}, 3, [][]int{{0, 2, 3}, {1, 2, 3}, {0, 2, 3}, {0, 2, 3}}},
		"as many racks as copies":       {[]int{0, 1, 0, 1}, 2, [][]int{{0, 1}, {1, 2}, {2, 3}, {0, 3}}},
		"more racks than copies":        {[]int{0, 1, 2, 3}, 2, [][]int{{0, 1}, {1, 2}, {2, 3}, {0, 3}}},
		"fewer racks than copies":       {[]int{0, 0, 1, 1}, 3, [][]int{{0, 1, 2}, {1, 2, 3}, {0, 2, 3}, {0, 1, 3}}},
		"behind it, not behind what is": {[]int{0, 0, 0, 1, 1, 1}, 3, [][]int{{0, 1, 3}, {1, 2, 3}, {2, 3, 4}, {0, 3, 4}, {0, 4, 5}, {0, 1, 5}}},
		"one rack":                      {[]int{1, 1, 1, 1}, 3, [][]int{{0, 1, 2}, {1, 2, 3}, {0, 2, 3}, {0, 1, 3}}},
		"round behind the last":         {[]int{1, 0, 0, 0}, 2, [][]int{{0, 1}, {0, 1}, {0, 2}, {0, 3}}},
		"as many homes":                 {[]int{0, 1, 2, 3, 0, 1}, 3, [][]int{{0, 1, 2}, {1, 2, 3}, {2, 3, 4}, {3, 4, 5}, {2, 4, 5}, {0, 2, 5}}},
	} {
		if l, ok := impl.RacksOf(c.racks, c.copies); !sameLists(l, c.want) || !ok {
			t.Error(why, l, ok)
		}
	}
}

func TestRacksThatAreNotSo(t *testing.T) {
	for why, c := range map[string]struct {
		racks  []int
		copies int
	}{
		"no home":               {nil, 1},
		"a list of none":        {[]int{}, 1},
		"no home, no copy":      {nil, 0},
		"one home too many":     {make([]int, 7), 1},
		"a rack of -1":          {[]int{-1}, 1},
		"a rack of 4":           {[]int{4}, 1},
		"of -1, the last":       {[]int{0, 1, -1}, 2},
		"of 4, the last":        {[]int{0, 1, 4}, 2},
		"no copy":               {[]int{0, 1}, 0},
		"copies below 0":        {[]int{0, 1}, -1},
		"four copies":           {[]int{0, 1, 2, 3, 0}, 4},
		"more copies than one":  {[]int{0}, 2},
		"more copies than two":  {[]int{0, 1}, 3},
		"many copies, one home": {[]int{0}, 3},
	} {
		if l, ok := impl.RacksOf(c.racks, c.copies); len(l) != 0 || ok {
			t.Error(why, l, ok)
		}
	}
	for homes := range 9 {
		for rack := -2; rack <= 5; rack++ {
			for copies := -1; copies <= 5; copies++ {
				l, ok := impl.RacksOf(slices.Repeat([]int{rack}, homes), copies)
				good := homes >= 1 && homes <= 6 && rack >= 0 && rack <= 3 && copies >= 1 && copies <= 3 && copies <= homes
				if ok != good || good && len(l) != homes || !good && len(l) != 0 {
					t.Error(homes, rack, copies, l, ok)
				}
			}
		}
	}
}

func TestRackSafe(t *testing.T) {
	two := []int{0, 0, 1}
	three := []int{0, 0, 1, 1, 2, 2}
	for why, c := range map[string]struct {
		racks []int
		l     [][]int
		safe  bool
	}{
		"no list":                   {two, nil, true},
		"a list of none":            {two, [][]int{}, true},
		"an empty list":             {two, [][]int{{}}, true},
		"a nil list":                {two, [][]int{nil}, true},
		"one home":                  {two, [][]int{{1}}, true},
		"as many racks as homes":    {two, [][]int{{0, 2}}, true},
		"as many as in all":         {two, [][]int{{0, 1, 2}}, true},
		"fewer":                     {two, [][]int{{0, 1}}, false},
		"one rack in all":           {[]int{3, 3, 3}, [][]int{{0, 1}, {0, 1, 2}}, true},
		"two of three, three homes": {three, [][]int{{0, 1, 2}}, false},
		"two of three, four homes":  {three, [][]int{{0, 1, 2, 3}}, false},
		"three of three":            {three, [][]int{{0, 2, 4}, {0, 1, 2, 4}, {0, 1, 2, 3, 4, 5}}, true},
		"the first is not":          {three, [][]int{{0, 1}, {0, 2}}, false},
		"the last is not":           {three, [][]int{{0, 2}, {}, {4, 5}}, false},
		"many lists":                {three, slices.Repeat([][]int{{1, 3, 5}}, 1000), true},
		"a rack that nobody has":    {[]int{0, 3}, [][]int{{0, 1}}, true},
	} {
		if safe, ok := impl.RackSafe(c.racks, c.l); safe != c.safe || !ok {
			t.Error(why, safe, ok)
		}
	}
}

func TestListsThatAreNotOfHomes(t *testing.T) {
	for why, c := range map[string]struct {
		racks []int
		l     [][]int
	}{
		"no home":                     {nil, nil},
		"no home, an empty list":      {nil, [][]int{{}}},
		"one home too many":           {make([]int, 7), nil},
		"a rack of -1":                {[]int{0, -1}, nil},
		"a rack of 4":                 {[]int{4, 0}, nil},
		"one twice":                   {[]int{0, 1}, [][]int{{0, 0}}},
		"one that falls":              {[]int{0, 1}, [][]int{{1, 0}}},
		"falls behind one that rises": {[]int{0, 1, 2}, [][]int{{0, 2, 1}}},
		"the home -1":                 {[]int{0, 1}, [][]int{{-1}}},
		"-1 ahead of one":             {[]int{0, 1}, [][]int{{-1, 0}}},
		"one behind the last home":    {[]int{0, 1}, [][]int{{0, 2}}},
		"a bad one behind a good one": {[]int{0, 1}, [][]int{{0, 1}, {1, 1}}},
		"a bad one behind unsafe":     {[]int{0, 0, 1}, [][]int{{0, 1}, {3}}},
		"a bad one ahead of unsafe":   {[]int{0, 0, 1}, [][]int{{3}, {0, 1}}},
	} {
		if safe, ok := impl.RackSafe(c.racks, c.l); safe || ok {
			t.Error(why, safe, ok)
		}
	}
}

// allRacks are all racks of so many homes.
func allRacks(homes int) [][]int {
	return allClocks(homes, 0, 1, 2, 3)
}

func TestAllRacks(t *testing.T) {
	for homes := 1; homes <= 6; homes++ {
		var lists [][][]int
		for _, l := range allLists(homes) {
			lists = append(lists, [][]int{l})
		}
		for _, racks := range allRacks(homes) {
			wantRacks(t, "all", racks, []int{0, 1, 2, 3, 4}, lists)
		}
	}
}

// Each list has its own home, so many homes, and as many racks as it can.
func TestListsOfRacksAreSafe(t *testing.T) {
	for homes := 1; homes <= 6; homes++ {
		for _, racks := range allRacks(homes) {
			for copies := 1; copies <= min(3, homes); copies++ {
				l, ok := impl.RacksOf(racks, copies)
				if !ok || len(l) != homes {
					t.Fatal(racks, copies, l, ok)
				}
				for k, some := range l {
					if len(some) != copies || !plainRising(some, homes) || !slices.Contains(some, k) {
						t.Error(racks, copies, k, some)
					}
				}
				if safe, ok := impl.RackSafe(racks, l); !safe || !ok {
					t.Error(racks, copies, l, safe, ok)
				}
			}
		}
	}
}

func TestAllFewPlaces(t *testing.T) {
	for homes := 1; homes <= 4; homes++ {
		for items := range 6 {
			for _, at := range allPlaces(homes, items) {
				wantPlaces(t, "few", homes, at, steps(homes+2, -1, 1))
			}
		}
	}
}

func TestRandomPlaces(t *testing.T) {
	r := newRandom()
	for range 20000 {
		homes, at := randomPlaces(r)
		wantPlaces(t, "random", homes, at, []int{-1, 0, r.IntN(homes), homes - 1, homes})
		if len(at) > 0 {
			at[r.IntN(len(at))] = []int{-2, -1, homes - 1, homes}[r.IntN(4)]
			wantPlaces(t, "random, one put elsewhere", homes, at, []int{0, homes - 1})
		}
	}
}

func TestRandomMoves(t *testing.T) {
	r := newRandom()
	for range 5000 {
		_, a := randomPlaces(r)
		b := slices.Clone(a)
		for range r.IntN(len(a) + 1) {
			b[r.IntN(len(b))] = r.IntN(10) - 1
		}
		wantMoves(t, "random", a, b)
		if len(a) > 0 {
			wantMoves(t, "not as long", a, b[1:])
			b[r.IntN(len(b))] = -2
			wantMoves(t, "one below", a, b)
		}
	}
}
