package tests

import (
	"math"
	"slices"
	"testing"

	"loop.example/g00821/impl"
)

// headed is an image of n words: what there is room for of the head, and
// words behind it that differ from each other.
func headed(n int, h impl.Head) []int64 {
	words := counting(n)
	copy(words, wantHeadWords(h))
	return words
}

// pictured is an image of seven clusters, the last of which lacks three words,
// with a table of four Shots in the cluster at, of which many count.
func pictured(at, many int64) []int64 {
	b := headed(53, impl.Head{Size: 20, First: 1, Refs: 2, Shots: at, Many: many})
	copy(b[min(at*8, int64(len(b))):], []int64{101, 3, 0, 65535, 65535, 0, 103, 32772})
	return b
}

var allShots = []impl.Shot{{Name: 101, First: 3}, {Name: 0, First: 65535}, {Name: 65535, First: 0}, {Name: 103, First: 32772}}

// headless are images of which the cluster 0 is nearly a head, and lists that
// are no image for all that it is one.
func headless() [][]int64 {
	b := pictured(3, 4)
	lists := append(oddImages(), b[8:], b[1:], b[:2], append([]int64{0}, b...))
	for _, w := range [][2]int64{{0, 20558}, {0, 0}, {1, 2}, {1, 4}, {2, 0}, {2, 65}, {6, 5}, {6, 65535}, {7, 1}, {7, 65535}, {0, -1}, {3, -1}, {3, 65536}, {5, 65536}, {6, -1}, {30, -1}, {52, 65536}} {
		lists = append(lists, withWord(b, int(w[0]), w[1]))
	}
	return append(lists, append(slices.Clone(b), -1), append(slices.Clone(b), make([]int64, 460)...))
}

func wantNoTable(t *testing.T, b []int64, target int64) {
	t.Helper()
	if got := impl.TableAt(b, target); len(got) != 0 {
		t.Fatalf("%d words: TableAt %d is %v, want nothing", len(b), target, got)
	}
}

// TestTableIsACluster is promise 4, of images of every length.
func TestTableIsACluster(t *testing.T) {
	for n := 3; n <= 512; n++ {
		b := headed(n, impl.Head{Size: 20, First: 1, Refs: 2, Shots: 3, Many: 1})
		many := wantMany(b)
		for target := 1; target < many; target++ {
			got := impl.TableAt(b, int64(target))
			if !same(got, wantCluster(b, target)) || !same(got, impl.ClusterAt(b, int64(target))) {
				t.Fatalf("%d words: TableAt %d is %v", n, target, got)
			}
		}
		for _, target := range []int64{math.MinInt64, -8, -1, 0, int64(many), int64(many) + 1, 64, 32768, 32769, 65535, 1 << 61, math.MaxInt64} {
			wantNoTable(t, b, target)
		}
	}
}

func TestTableAtItsLimits(t *testing.T) {
	b := pictured(3, 2)
	for target, want := range map[int64][]int64{
		-1: nil,
		0:  nil,
		1:  {9, 10, 11, 12, 13, 14, 15, 16},
		3:  {101, 3, 0, 65535, 65535, 0, 103, 32772},
		5:  {41, 42, 43, 44, 45, 46, 47, 48},
		6:  {49, 50, 51, 52, 53, 0, 0, 0},
		7:  nil,
		8:  nil,
	} {
		if got := impl.TableAt(b, target); !same(got, want) {
			t.Errorf("TableAt %d is %v, want %v", target, got, want)
		}
	}
}

// TestTableLacksSpareRoom: what stands behind a list is not part of it.
func TestTableLacksSpareRoom(t *testing.T) {
	b := pictured(3, 4)
	for n := 25; n <= 32; n++ {
		cut := b[:n]
		want := wantCluster(slices.Clone(cut), 3)
		if got := impl.TableAt(cut, 3); !same(got, want) {
			t.Errorf("%d words: TableAt 3 is %v, want %v", n, got, want)
		}
		shots := impl.ShotsIn(cut)
		if len(shots) != 4 {
			t.Fatalf("%d words: the Shots %v", n, shots)
		}
		for i, s := range shots {
			if s != (impl.Shot{Name: want[2*i], First: want[2*i+1]}) || impl.FirstOf(cut, int64(i)+1) != s.First {
				t.Errorf("%d words: the Shot %d is %v, its First %d", n, i, s, impl.FirstOf(cut, int64(i)+1))
			}
		}
	}
	wantNoTable(t, b[:24], 3)
	if got := impl.ShotsIn(b[:24]); len(got) != 0 {
		t.Errorf("24 words: the Shots %v", got)
	}
}

func TestTablesOfAHeadAlone(t *testing.T) {
	for n := 3; n <= 8; n++ {
		b := headed(n, impl.Head{Size: 1, First: 1, Shots: 1, Many: 4})
		wantNoTable(t, b, 0)
		wantNoTable(t, b, 1)
		if got := impl.ShotsIn(b); len(got) != 0 || impl.FirstOf(b, 1) != 0 {
			t.Errorf("%d words: the Shots %v", n, got)
		}
		if want := wantCluster(b, 0)[3]; impl.FirstOf(b, 0) != want {
			t.Errorf("%d words: FirstOf 0 is %d, want %d", n, impl.FirstOf(b, 0), want)
		}
	}
}

func TestShotsOfEveryManyAndPlace(t *testing.T) {
	for many := int64(0); many <= 4; many++ {
		for at := int64(1); at <= 5; at++ {
			if got := impl.ShotsIn(pictured(at, many)); !slices.Equal(got, allShots[:many]) {
				t.Errorf("%d in the cluster %d: %v", many, at, got)
			}
		}
	}
	// The last cluster lacks the words of the fourth one, and one of the third.
	want := []impl.Shot{allShots[0], allShots[1], {Name: 65535}, {}}
	if got := impl.ShotsIn(pictured(6, 4)); !slices.Equal(got, want) {
		t.Errorf("in the last cluster: %v, want %v", got, want)
	}
}

func TestShotsThatAreNotThere(t *testing.T) {
	// 32771 would be the table 3, if Shots were an entry; but it is a target.
	for _, at := range []int64{0, 7, 8, 63, 64, 32767, 32768, 32771, 65535} {
		for many := int64(0); many <= 4; many++ {
			b := headed(53, impl.Head{Size: 20, First: 1, Refs: 2, Shots: at, Many: many})
			if got := impl.ShotsIn(b); len(got) != 0 {
				t.Errorf("%d in the cluster %d: %v", many, at, got)
			}
			for which := int64(1); which <= 5; which++ {
				if got := impl.FirstOf(b, which); got != 0 {
					t.Errorf("%d in the cluster %d: FirstOf %d is %d", many, at, which, got)
				}
			}
			if got := impl.FirstOf(b, 0); got != 1 {
				t.Errorf("%d in the cluster %d: FirstOf 0 is %d", many, at, got)
			}
		}
	}
}

func TestFirstOfEveryWhich(t *testing.T) {
	for many := int64(0); many <= 4; many++ {
		b := pictured(3, many)
		for which := int64(-2); which <= 6; which++ {
			var want int64
			switch {
			case which == 0:
				want = 1
			case which >= 1 && which <= many:
				want = allShots[which-1].First
			}
			if got := impl.FirstOf(b, which); got != want {
				t.Errorf("%d Shots: FirstOf %d is %d, want %d", many, which, got, want)
			}
		}
	}
}

// TestFirstIsToldAsItStands: whether it is there is asked by others.
func TestFirstIsToldAsItStands(t *testing.T) {
	for _, first := range []int64{0, 1, 6, 7, 64, 32767, 32768, 32769, 65535} {
		b := headed(53, impl.Head{Size: 20, First: first, Refs: 2, Shots: 4, Many: 1})
		b[33] = first
		if impl.FirstOf(b, 0) != first || impl.FirstOf(b, 1) != first {
			t.Errorf("the First %d is told as %d and %d", first, impl.FirstOf(b, 0), impl.FirstOf(b, 1))
		}
	}
}

func TestTablesWithoutAHead(t *testing.T) {
	for i, b := range headless() {
		wantNoHead(t, "headless", b)
		for _, n := range append(oddNumbers(), 3, 4, 5, 6) {
			wantNoTable(t, b, n)
			if got := impl.FirstOf(b, n); got != 0 {
				t.Errorf("the list %d: FirstOf %d is %d", i, n, got)
			}
		}
		if got := impl.ShotsIn(b); len(got) != 0 {
			t.Errorf("the list %d: the Shots %v", i, got)
		}
	}
}

func TestTablesAnswerEverywhere(t *testing.T) {
	for _, length := range []int{3, 7, 8, 9, 25, 32, 53, 504, 505, 512} {
		for _, shots := range []int64{0, 1, 2, 3, 6, 62, 63, 64, 32768, 65535} {
			b := headed(length, impl.Head{Size: 64, First: 65535, Refs: 65535, Shots: shots, Many: 4})
			h, _ := impl.HeadIn(b)
			there := h.Shots > 0 && h.Shots < int64(wantMany(b))
			var many int64
			if there {
				many = h.Many
			}
			if got := impl.ShotsIn(b); int64(len(got)) != many {
				t.Fatalf("%d words, %v: the Shots %v", length, h, got)
			}
			for _, n := range oddNumbers() {
				if got := impl.TableAt(b, n); len(got) == 8 != (n > 0 && n < int64(wantMany(b))) || !impl.ImageOk(got) {
					t.Fatalf("%d words: TableAt %d is %v", length, n, got)
				}
				if got := impl.FirstOf(b, n); got != 0 && n != 0 && (n < 1 || n > many) {
					t.Fatalf("%d words, %v: FirstOf %d is %d", length, h, n, got)
				}
			}
		}
	}
}

func TestTablesLeaveTheirArguments(t *testing.T) {
	for _, words := range append(headless(), pictured(3, 4), pictured(6, 4), pictured(7, 2), headed(512, impl.Head{Size: 8, Shots: 63, Many: 4})) {
		b := guard(words)
		for target := int64(-1); target <= 65; target++ {
			impl.FirstOf(b.list, target)
			impl.ShotsIn(b.list)
			answer := impl.TableAt(b.list, target)
			b.check(t, "tables")
			spoil(answer)
			b.check(t, "tables, the answer written over")
		}
	}
}

// TestTablesAnswerAnew: an answer that somebody wrote over is not given again.
func TestTablesAnswerAnew(t *testing.T) {
	b := pictured(3, 4)
	kept, shots := impl.TableAt(b, 6), impl.ShotsIn(b)
	spoil(impl.TableAt(b, 6))
	other := impl.ShotsIn(b)
	for i := range other {
		other[i] = impl.Shot{Name: -99, First: -99}
	}
	want := []int64{49, 50, 51, 52, 53, 0, 0, 0}
	if !same(kept, want) || !same(impl.TableAt(b, 6), want) {
		t.Error("two tables share memory")
	}
	if !slices.Equal(shots, allShots) || !slices.Equal(impl.ShotsIn(b), allShots) {
		t.Error("two lists of Shots share memory")
	}
}
