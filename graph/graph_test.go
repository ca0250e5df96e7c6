package graph_test

import (
	"math"
	"math/rand"
	"slices"
	"testing"

	"bailey/api"
	"bailey/graph"
)

// The limits are the document's.
const (
	maxNodes = 4096
	maxEdges = 16384
)

type edges = [][2]int

// comes says which nodes come to which: to itself each, and by one edge more where it has come to.
func comes(n int, l edges) [][]bool {
	next := make([][]int, n)
	for _, e := range l {
		next[e[0]] = append(next[e[0]], e[1])
	}
	to := make([][]bool, n)
	for from := range to {
		to[from] = make([]bool, n)
		to[from][from] = true
		for todo := []int{from}; len(todo) > 0; {
			at := todo[0]
			todo = todo[1:]
			for _, k := range next[at] {
				if !to[from][k] {
					to[from][k] = true
					todo = append(todo, k)
				}
			}
		}
	}
	return to
}

// told is what the document tells of a graph: the words of a part, and of which comes next, one by one.
func told(n int, l edges) (parts [][]int) {
	to := comes(n, l)
	part := func(node int) (p []int) {
		for k := range n {
			if to[node][k] && to[k][node] {
				p = append(p, k)
			}
		}
		return p
	}
	left := make([]bool, n)
	for k := range left {
		left[k] = true
	}
	leads := func(p []int) bool { // to another one that is left: what its first node comes to, and does not come back
		for k := range n {
			if left[k] && to[p[0]][k] && !to[k][p[0]] {
				return true
			}
		}
		return false
	}
	for slices.Contains(left, true) {
		for node := range n { // the first node that has such a part is that part's first node
			if p := part(node); left[node] && !leads(p) {
				for _, k := range p {
					left[k] = false
				}
				parts = append(parts, p)
				break
			}
		}
	}
	return parts
}

// same: are two lists of parts? Nil and empty are the same, but no part is empty.
func same(a, b [][]int) bool { return slices.EqualFunc(a, b, slices.Equal[[]int]) }

// partsOf says that a graph has parts, and answers them.
func partsOf(t testing.TB, n int, l edges) [][]int {
	t.Helper()
	parts, e := graph.Parts(n, l)
	if e != api.OK {
		t.Fatalf("P9.1: Parts of %d nodes, %d edges: %d", n, len(l), e)
	}
	return parts
}

// has says which parts a graph has.
func has(t *testing.T, n int, l edges, want ...[]int) {
	t.Helper()
	if parts := partsOf(t, n, l); !same(parts, want) {
		t.Errorf("P9.1: Parts of %d nodes, %v: %v, not %v", n, short(l), short(parts), short(want))
	}
	follows(t, n, l)
}

// short is a list as it may be told when something is wrong.
func short[T any](l []T) []T { return l[:min(len(l), 40)] }

// fails says that a graph has no parts, and by which error.
func fails(t *testing.T, n int, l edges, e api.Errno) {
	t.Helper()
	if parts, got := graph.Parts(n, l); len(parts) != 0 || got != e {
		t.Errorf("P9.1: Parts of %d nodes, %d edges %v: %v, %d, not %d", n, len(l), short(l), short(parts), got, e)
	}
}

// turned are all edges, turned round.
func turned(l edges) (r edges) {
	for _, e := range l {
		r = append(r, [2]int{e[1], e[0]})
	}
	return r
}

// byFirst are parts as their first nodes rise.
func byFirst(parts [][]int) [][]int {
	l := slices.Clone(parts)
	slices.SortFunc(l, func(a, b []int) int { return a[0] - b[0] })
	return l
}

// follows holds what the document says to follow against a graph.
func follows(t *testing.T, n int, l edges) {
	t.Helper()
	parts := partsOf(t, n, l)
	place := slices.Repeat([]int{-1}, n)
	for i, p := range parts {
		if len(p) == 0 || !slices.IsSorted(p) {
			t.Fatalf("P9.1: Parts of %d nodes, %v: the part %v", n, short(l), short(p))
		}
		for _, k := range p {
			if k < 0 || k >= n || place[k] != -1 {
				t.Fatalf("P9.3: Parts of %d nodes, %v: %d is in two, or is none", n, short(l), k)
			}
			place[k] = i
		}
	}
	for k, i := range place {
		if got := graph.Part(parts, k); i == -1 || got != i {
			t.Fatalf("P9.3: Parts of %d nodes, %v: %d is in the part %d; Part answers %d", n, short(l), k, i, got)
		}
	}
	for _, e := range l {
		if place[e[0]] < place[e[1]] {
			t.Fatalf("P9.3: Parts of %d nodes, %v: %v leads to one that is told behind", n, short(l), e)
		}
	}
	if round := partsOf(t, n, turned(l)); !same(byFirst(round), byFirst(parts)) {
		t.Fatalf("P9.3: Parts of %d nodes, %v, turned round: %v, not those of %v", n, short(l), short(round), short(parts))
	}
}

// asTold holds a graph against the document.
func asTold(t *testing.T, n int, l edges) {
	t.Helper()
	if parts, want := partsOf(t, n, l), told(n, l); !same(parts, want) {
		t.Fatalf("P9.1: Parts of %d nodes, %v: %v, not %v", n, short(l), short(parts), short(want))
	}
}

// way leads from each node to the next one, round if it shall.
func way(n int, round bool) (l edges) {
	for k := range n - 1 {
		l = append(l, [2]int{k, k + 1})
	}
	if round {
		l = append(l, [2]int{n - 1, 0})
	}
	return l
}

// alone are so many nodes from one on, each a part.
func alone(from, n int) (parts [][]int) {
	for k := range n {
		parts = append(parts, []int{from + k})
	}
	return parts
}

// upTo are the numbers below n.
func upTo(n int) (l []int) {
	for k := range n {
		l = append(l, k)
	}
	return l
}

func TestTheLimits(t *testing.T) {
	if graph.Most != maxEdges || api.MaxSyms != maxNodes {
		t.Errorf("Most: %d, MaxSyms: %d", graph.Most, api.MaxSyms)
	}
}

func TestTheDocumentsExamples(t *testing.T) {
	has(t, 4, edges{{0, 1}, {1, 0}, {1, 2}}, []int{2}, []int{0, 1}, []int{3})
	has(t, 3, edges{{0, 1}, {1, 2}}, []int{2}, []int{1}, []int{0})
	fails(t, 2, edges{{0, 2}}, api.ErrArg)
}

func TestPartsOfFew(t *testing.T) {
	has(t, 0, nil)
	has(t, 0, edges{})
	has(t, 1, nil, []int{0})
	has(t, 1, edges{{0, 0}, {0, 0}}, []int{0})
	has(t, 2, nil, []int{0}, []int{1})
	has(t, 2, edges{{0, 1}}, []int{1}, []int{0})
	has(t, 2, edges{{1, 0}}, []int{0}, []int{1})
	has(t, 2, edges{{1, 0}, {0, 1}}, []int{0, 1})
	has(t, 2, edges{{0, 1}, {0, 1}, {1, 1}, {0, 0}}, []int{1}, []int{0})
	has(t, 3, edges{{2, 0}, {0, 1}, {1, 2}}, []int{0, 1, 2})
	has(t, 3, edges{{2, 1}, {1, 0}}, []int{0}, []int{1}, []int{2})
	has(t, 5, way(5, false), []int{4}, []int{3}, []int{2}, []int{1}, []int{0})
	has(t, 5, way(5, true), []int{0, 1, 2, 3, 4})
	has(t, 5, nil, alone(0, 5)...)
	has(t, 7, edges{{0, 1}, {1, 0}, {1, 2}, {2, 3}, {3, 2}, {4, 5}, {5, 6}, {6, 4}}, []int{2, 3}, []int{0, 1}, []int{4, 5, 6})
}

// Which comes next is looked at anew each time: one that no other holds back any more may be ahead of those that were free before.
func TestWhichComesFirst(t *testing.T) {
	has(t, 5, edges{{0, 4}, {1, 3}, {2, 4}}, []int{3}, []int{1}, []int{4}, []int{0}, []int{2})
	has(t, 5, edges{{0, 2}}, []int{1}, []int{2}, []int{0}, []int{3}, []int{4})
	has(t, 5, edges{{0, 2}, {1, 0}}, []int{2}, []int{0}, []int{1}, []int{3}, []int{4})
	has(t, 4, edges{{0, 1}, {0, 3}}, []int{1}, []int{2}, []int{3}, []int{0})
	has(t, 6, edges{{5, 0}, {0, 5}, {1, 4}}, []int{0, 5}, []int{2}, []int{3}, []int{4}, []int{1}) // by the first node, not by the last one
	has(t, 6, edges{{5, 1}, {1, 5}, {2, 3}, {3, 2}, {4, 0}, {0, 4}}, []int{0, 4}, []int{1, 5}, []int{2, 3})
	has(t, 6, edges{{0, 1}, {0, 1}, {0, 1}, {1, 5}, {1, 5}}, []int{2}, []int{3}, []int{4}, []int{5}, []int{1}, []int{0}) // an edge may be there often
	has(t, 6, edges{{0, 2}, {2, 0}, {2, 3}, {0, 4}, {3, 4}, {4, 3}, {1, 0}}, []int{3, 4}, []int{0, 2}, []int{1}, []int{5})
	has(t, 8, edges{{0, 7}, {7, 0}, {0, 6}, {7, 5}, {6, 1}, {1, 6}, {5, 2}}, []int{1, 6}, []int{2}, []int{3}, []int{4}, []int{5}, []int{0, 7})
}

// One edge back makes one part of all that stands between, wherever it stands among the edges.
func TestAnEdgeBack(t *testing.T) {
	const n = 12
	for from := range n {
		for to := range from + 1 {
			for at := range n {
				l := slices.Insert(way(n, false), at, [2]int{from, to})
				var want [][]int
				for k := n - 1; k >= 0; k-- {
					switch {
					case k == from:
						want = append(want, upTo(n)[to:from+1])
					case k > from || k < to:
						want = append(want, []int{k})
					}
				}
				has(t, n, l, want...)
			}
		}
	}
}

// Every graph of up to four nodes, but for edges that are there twice.
func TestEverySmallGraph(t *testing.T) {
	for n := range 5 {
		for which := range 1 << (n * n) {
			var l edges
			for at := range n * n {
				if which>>at&1 == 1 {
					l = append(l, [2]int{at / n, at % n})
				}
			}
			asTold(t, n, l)
			if n < 4 || which%16 == 5 {
				follows(t, n, l)
			}
		}
	}
}

// The order of edges, and how often each is there, says nothing.
func TestTheOrderOfEdges(t *testing.T) {
	r := rand.New(rand.NewSource(9))
	l := edges{{0, 3}, {3, 5}, {5, 0}, {1, 5}, {2, 6}, {6, 2}, {6, 7}, {7, 8}, {8, 6}, {8, 0}, {4, 4}, {9, 4}}
	want := [][]int{{0, 3, 5}, {1}, {2, 6, 7, 8}, {4}, {9}}
	for range 500 {
		r.Shuffle(len(l), func(i, j int) { l[i], l[j] = l[j], l[i] })
		has(t, 10, l, want...)
		has(t, 10, append(slices.Clone(l), l[:r.Intn(len(l))]...), want...)
	}
}

// chance makes so many edges of so many nodes; few of them lead up.
func chance(r *rand.Rand, n, many, up int) (l edges) {
	for range many {
		a, b := r.Intn(n), r.Intn(n)
		if a < b && r.Intn(100) >= up {
			a, b = b, a
		}
		l = append(l, [2]int{a, b})
	}
	return l
}

// named gives each node of a graph another number.
func named(r *rand.Rand, n int, l edges) (c edges) {
	names := r.Perm(n)
	for _, e := range l {
		c = append(c, [2]int{names[e[0]], names[e[1]]})
	}
	return c
}

func TestManyByChance(t *testing.T) {
	r := rand.New(rand.NewSource(91))
	middle := 0
	for i := range 6000 {
		n := 1 + r.Intn(30)
		l := named(r, n, chance(r, n, r.Intn(3*n), []int{0, 5, 20, 100}[i%4]))
		asTold(t, n, l)
		follows(t, n, l)
		if k := len(partsOf(t, n, l)); 1 < k && k < n {
			middle++
		}
	}
	if middle < 1000 {
		t.Errorf("the test itself is wrong: %d graphs have neither one part alone nor one for each node", middle)
	}
}

func TestLargerOnesByChance(t *testing.T) {
	r := rand.New(rand.NewSource(92))
	for i := range 40 {
		n := 100 + r.Intn(200)
		l := named(r, n, chance(r, n, n+r.Intn(n), []int{0, 1, 5, 100}[i%4]))
		asTold(t, n, l)
		follows(t, n, l)
	}
}

// As many nodes, and as many edges, as may be.
func TestTheLargestGraphs(t *testing.T) {
	has(t, maxNodes, nil, alone(0, maxNodes)...)
	back := alone(0, maxNodes)
	slices.Reverse(back)
	has(t, maxNodes, way(maxNodes, false), back...)
	has(t, maxNodes, turned(way(maxNodes, false)), alone(0, maxNodes)...)
	has(t, maxNodes, way(maxNodes, true), upTo(maxNodes))
	has(t, maxNodes, turned(way(maxNodes, true)), upTo(maxNodes))
	has(t, maxNodes, slices.Repeat(way(maxNodes, true), 4), upTo(maxNodes)) // 16384 edges
	has(t, maxNodes, slices.Concat(way(maxNodes, false), turned(way(maxNodes, false))), upTo(maxNodes))
	var all, star, ahead edges
	for a := range 128 {
		for b := range 128 {
			all = append(all, [2]int{a, b})
		}
	}
	has(t, 128, all, upTo(128)) // 16384 edges
	for k := range maxNodes - 1 {
		star = append(star, [2]int{0, k + 1})
		ahead = append(ahead, [2]int{k, maxNodes - 1})
	}
	has(t, maxNodes, star, append(alone(1, maxNodes-1), []int{0})...)
	has(t, maxNodes, turned(star), alone(0, maxNodes)...)
	has(t, maxNodes, ahead, append([][]int{{maxNodes - 1}}, alone(0, maxNodes-1)...)...)
	has(t, maxNodes, append(way(maxNodes/2, true), way(maxNodes, false)[maxNodes/2:]...), append([][]int{upTo(maxNodes / 2)}, back[:maxNodes/2]...)...)
	has(t, 1, slices.Repeat(edges{{0, 0}}, maxEdges), []int{0})
	has(t, 2, slices.Repeat(edges{{0, 1}}, maxEdges), []int{1}, []int{0})
	for _, up := range []int{0, 1, 30, 100} {
		r := rand.New(rand.NewSource(int64(up)))
		follows(t, maxNodes, named(r, maxNodes, chance(r, maxNodes, maxEdges, up)))
		follows(t, maxNodes, named(r, maxNodes, chance(r, maxNodes, maxNodes, up)))
	}
}

func TestNoSuchNode(t *testing.T) {
	for _, n := range []int{-1, -2, -maxNodes, math.MinInt} {
		fails(t, n, nil, api.ErrArg)
		fails(t, n, edges{{0, 0}}, api.ErrArg)
		fails(t, n, edges{{n, n}}, api.ErrArg)
		fails(t, n, slices.Repeat(edges{{0, 0}}, maxEdges), api.ErrArg)
	}
	for _, n := range []int{0, 1, 2, 5, maxNodes} {
		for _, wrong := range []int{-1, -n - 1, n, n + 1, maxNodes, math.MinInt, math.MaxInt, 1 << 32, -1 << 32} {
			for _, right := range []int{0, n / 2, n - 1} {
				fails(t, n, edges{{wrong, right}}, api.ErrArg)
				fails(t, n, edges{{right, wrong}}, api.ErrArg)
				fails(t, n, edges{{wrong, wrong}}, api.ErrArg)
			}
		}
	}
	for at := range 6 {
		fails(t, 5, slices.Insert(way(5, true), at, [2]int{0, 5}), api.ErrArg)
		fails(t, 5, slices.Insert(way(5, true), at, [2]int{-1, 0}), api.ErrArg)
	}
	most := slices.Repeat(edges{{1, 1}}, maxEdges)
	has(t, 2, most, []int{0}, []int{1})
	most[maxEdges-1][1] = 2
	fails(t, 2, most, api.ErrArg)
	most[maxEdges-1][1], most[0][0] = 1, -1
	fails(t, 2, most, api.ErrArg)
}

// That there are too many goes ahead of what no node is.
func TestMoreThanMayBe(t *testing.T) {
	for _, n := range []int{maxNodes + 1, maxNodes + 2, 1 << 20, 1 << 40, math.MaxInt} {
		fails(t, n, nil, api.ErrMany)
		fails(t, n, edges{{0, n - 1}}, api.ErrMany)
		fails(t, n, edges{{-1, n}}, api.ErrMany)
	}
	for _, many := range []int{maxEdges + 1, maxEdges + 2, 1 << 20} {
		l := slices.Repeat(edges{{0, 1}}, many)
		for _, n := range []int{2, maxNodes, maxNodes + 1, 1, 0, -1, math.MinInt, math.MaxInt} {
			fails(t, n, l, api.ErrMany)
		}
		for _, wrong := range []int{-1, 2, math.MaxInt} {
			l[0][1] = wrong
			fails(t, 2, l, api.ErrMany)
			l[0][1], l[many-1][0] = 1, wrong
			fails(t, 2, l, api.ErrMany)
			l[many-1][0] = 0
		}
	}
	has(t, maxNodes, edges{{0, maxNodes - 1}}, slices.Concat(alone(1, maxNodes-1), [][]int{{0}})...)
}

func TestPart(t *testing.T) {
	for _, c := range []struct {
		parts [][]int
		node  int
		want  int
	}{
		{nil, 0, -1},
		{[][]int{}, 0, -1},
		{[][]int{nil}, 0, -1},
		{[][]int{{}, nil, {0}}, 0, 2},
		{[][]int{{3}, {0, 1}}, 3, 0},
		{[][]int{{3}, {0, 1}}, 0, 1},
		{[][]int{{3}, {0, 1}}, 1, 1},
		{[][]int{{3}, {0, 1}}, 2, -1},
		{[][]int{{3}, {0, 1}}, 4, -1},
		{[][]int{{3}, {0, 1}}, -1, -1},
		{[][]int{{3}, {0, 1}}, math.MaxInt, -1},
		{[][]int{{3}, {0, 1}}, math.MinInt, -1},
		{[][]int{{2}, {1, 2}, {2}}, 2, 0}, // of several the first one
		{[][]int{{1}, {3, 2}, {2}}, 2, 1},
		{[][]int{{9, 4, 7, 1}, {5, 0}}, 1, 0}, // of any order
		{[][]int{{9, 4, 7, 1}, {5, 0}}, 4, 0},
		{[][]int{{9, 4, 7, 1}, {5, 0}}, 0, 1},
		{[][]int{{1, 1, 1}, {2, 2}}, 2, 1},
		{[][]int{{0}, {-1}}, -1, 1}, // of any numbers
		{[][]int{{0}, {math.MinInt, math.MaxInt}}, math.MaxInt, 1},
		{alone(0, 100000), 99999, 99999},
		{alone(0, 100000), 100000, -1},
		{[][]int{nil, upTo(100000)}, 99999, 1},
	} {
		for range 2 {
			if got := graph.Part(c.parts, c.node); got != c.want {
				t.Errorf("P9.2: Part of %v, %d: %d, not %d", short(c.parts), c.node, got, c.want)
			}
		}
	}
}

func TestWhatIsHandedInIsNotChanged(t *testing.T) {
	whole := edges{{2, 1}, {1, 2}, {0, 1}, {0, 7}, {9, 9}}
	kept := slices.Clone(whole)
	for range 3 {
		if parts := partsOf(t, 3, whole[:3]); !same(parts, [][]int{{1, 2}, {0}}) {
			t.Errorf("R5: Parts: %v", parts)
		}
		fails(t, 3, whole, api.ErrArg)
	}
	if !slices.Equal(whole, kept) {
		t.Errorf("R3: what was handed in is changed: %v", whole)
	}
	one := []int{5, 4, 9, 9}
	parts := [][]int{one[:2], {3}, nil, {9}}
	if got := graph.Part(parts[:3], 9); got != -1 {
		t.Errorf("P9.2: what stands behind a list's end: %d", got)
	}
	if !slices.Equal(one, []int{5, 4, 9, 9}) || !same(parts, [][]int{{5, 4}, {3}, nil, {9}}) {
		t.Errorf("R3: what was handed in is changed: %v, %v", one, parts)
	}
}

func TestWhatIsAnsweredIsNewMemory(t *testing.T) {
	l := edges{{0, 1}, {1, 0}, {1, 2}, {3, 4}, {4, 5}, {5, 3}}
	want := [][]int{{2}, {0, 1}, {3, 4, 5}, {6}}
	parts, other := partsOf(t, 7, l), partsOf(t, 7, l)
	clear(l) // edges are not kept
	for _, p := range parts {
		clear(p[len(p):cap(p)]) // the room behind one list must not be a part of another one
		_ = append(p, 99)
	}
	clear(parts[len(parts):cap(parts)])
	if !same(parts, want) {
		t.Errorf("R3: two lists hang together, or edges are kept: %v", parts)
	}
	for _, p := range parts {
		clear(p[:cap(p)])
	}
	clear(parts[:cap(parts)])
	if !same(other, want) {
		t.Errorf("R3: two answers hang together: %v", other)
	}
}

// What was asked, or refused, before says nothing to what is asked next.
func TestPartsHangOnNothingElse(t *testing.T) {
	for range 3 {
		fails(t, 2, edges{{0, 1}, {1, 0}, {1, 2}}, api.ErrArg)
		has(t, 2, nil, []int{0}, []int{1})
		has(t, 2, edges{{0, 1}, {1, 0}}, []int{0, 1})
		fails(t, maxNodes+1, nil, api.ErrMany)
		has(t, 2, edges{{0, 1}}, []int{1}, []int{0})
		has(t, 0, nil)
	}
}

func FuzzAsTold(f *testing.F) {
	f.Add(4, []byte{0, 1, 1, 0, 1, 2})
	f.Add(3, []byte{0, 1, 1, 2})
	f.Add(2, []byte{0, 2})
	f.Add(6, []byte{5, 4, 4, 3, 3, 5, 0, 3, 1, 0, 2, 1, 0, 2})
	f.Add(-1, []byte{})
	f.Fuzz(func(t *testing.T, n int, b []byte) {
		n = n % 64
		var l edges
		want := api.OK
		for i := 0; i+1 < len(b); i += 2 {
			l = append(l, [2]int{int(int8(b[i])), int(int8(b[i+1]))})
			if min(l[i/2][0], l[i/2][1]) < 0 || max(l[i/2][0], l[i/2][1]) >= n {
				want = api.ErrArg
			}
		}
		switch {
		case len(l) > maxEdges:
			fails(t, n, l, api.ErrMany)
		case n < 0 || want != api.OK:
			fails(t, n, l, api.ErrArg)
		default:
			asTold(t, n, l)
			follows(t, n, l)
		}
	})
}
