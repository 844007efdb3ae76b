package tests

import (
	"math"
	"slices"
	"testing"

	"loop.example/g00821/impl"
)

// disked is an image of nine clusters: a disk of that size whose first table
// is the cluster 1, and four Shots in the cluster 2, of which many count. The
// first tables are the clusters 1, 3, 4, one that is not there, and 1 again;
// the cluster 5 is a table that two of them share.
func disked(size, many int64) []int64 {
	return slices.Concat(
		wantHeadWords(impl.Head{Size: size, First: 1, Shots: 2, Many: many}),
		[]int64{5, 32774, 0, 9, 32777, 32768, 7, 32776},
		[]int64{11, 3, 12, 4, 13, 9, 14, 1},
		[]int64{32773, 6, 8, 0, 0, 32767, 65535, 5},
		[]int64{0, 0, 0, 0, 0, 0, 0, 0},
		[]int64{51, 32852, 0, 32768, 65535, 9, 32777, 58},
		[]int64{61, 62, 63, 64, 65, 66, 67, 68},
		[]int64{71, 72, 73, 74, 75, 76, 77, 78},
		[]int64{81, 82, 83, 84, 85, 86, 87, 88},
	)
}

// wantFirst, wantWord, wantFirstEntry and wantEntry go down the tables straight
// in the list, so that no layer of the program is asked.
func wantFirst(b []int64, which int64) int64 {
	head := wantCluster(b, 0)
	shots, many := head[5], head[6]
	switch {
	case which == 0:
		return head[3]
	case which < 0 || which > many || shots < 1 || shots >= int64(wantMany(b)):
		return 0
	}
	return wantCluster(b, int(shots))[2*which-1]
}

func wantWord(b []int64, target, slot int64) int64 {
	if target < 1 || target >= int64(wantMany(b)) || slot < 0 || slot > 7 {
		return 0
	}
	return wantCluster(b, int(target))[slot]
}

func wantFirstEntry(b []int64, which, slot int64) int64 {
	return wantWord(b, wantFirst(b, which), slot)
}

func wantEntry(b []int64, which, g int64) int64 {
	if g < 0 || g >= wantCluster(b, 0)[2] {
		return 0
	}
	return wantWord(b, wantFirstEntry(b, which, g>>3)&32767, g&7)
}

func checkEntry(t *testing.T, b []int64, which, g, want int64) {
	t.Helper()
	if got := impl.EntryAt(b, which, g); got != want {
		t.Errorf("%d words: EntryAt %d, %d is %d, want %d", len(b), which, g, got, want)
	}
}

func checkFirstEntry(t *testing.T, b []int64, which, slot, want int64) {
	t.Helper()
	if got := impl.FirstEntry(b, which, slot); got != want {
		t.Errorf("%d words: FirstEntry %d, %d is %d, want %d", len(b), which, slot, got, want)
	}
}

// TestEntryStandsInASecondTable is promise 5: of each size, of each first
// table and each g, it is the word that the second table has in that slot.
func TestEntryStandsInASecondTable(t *testing.T) {
	for size := int64(1); size <= 64; size++ {
		for many := int64(0); many <= 4; many++ {
			b := disked(size, many)
			for which := int64(-1); which <= 6; which++ {
				for g := int64(-9); g <= 73; g++ {
					checkEntry(t, b, which, g, wantEntry(b, which, g))
				}
				for slot := int64(-9); slot <= 17; slot++ {
					checkFirstEntry(t, b, which, slot, wantFirstEntry(b, which, slot))
				}
			}
		}
	}
}

// TestEntriesOfADisk has its wants written out, by the table they stand in.
func TestEntriesOfADisk(t *testing.T) {
	b := disked(64, 0)
	none := make([]int64, 8)
	for slot, want := range [][]int64{
		{51, 32852, 0, 32768, 65535, 9, 32777, 58},
		{61, 62, 63, 64, 65, 66, 67, 68},
		none, none, none, none,
		{71, 72, 73, 74, 75, 76, 77, 78},
		{81, 82, 83, 84, 85, 86, 87, 88},
	} {
		for i, w := range want {
			checkEntry(t, b, 0, int64(slot*8+i), w)
		}
	}
	for slot, want := range []int64{5, 32774, 0, 9, 32777, 32768, 7, 32776} {
		checkFirstEntry(t, b, 0, int64(slot), want)
	}
}

func TestEntriesAtTheSize(t *testing.T) {
	for _, c := range []struct{ size, last int64 }{
		{1, 51}, {2, 32852}, {8, 58}, {9, 61}, {15, 67}, {16, 68}, {17, 0}, {49, 71}, {57, 81}, {63, 87}, {64, 88},
	} {
		b := disked(c.size, 0)
		checkEntry(t, b, 0, 0, 51)
		checkEntry(t, b, 0, c.size-1, c.last)
		for _, g := range []int64{c.size, c.size + 1, c.size + 8, 64, 65, -1, -7, -8, -9, -64, math.MinInt64, math.MaxInt64} {
			checkEntry(t, b, 0, g, 0)
		}
	}
}

// TestFirstEntryPassesOverTheSize: a first table has eight slots whatever the
// size of the disk.
func TestFirstEntryPassesOverTheSize(t *testing.T) {
	for _, size := range []int64{1, 8, 9, 64} {
		b := disked(size, 0)
		for slot, want := range map[int64]int64{-8: 0, -1: 0, 0: 5, 1: 32774, 6: 7, 7: 32776, 8: 0, 9: 0, 15: 0, 63: 0, math.MinInt64: 0, math.MaxInt64: 0} {
			checkFirstEntry(t, b, 0, slot, want)
		}
	}
}

func TestEntriesOfEveryWhich(t *testing.T) {
	b := disked(64, 4)
	for which, want := range map[int64][3]int64{
		// The slot 0 of the first table, then g of 1 and of 63.
		0: {5, 32852, 88},
		1: {32773, 32852, 58},
		2: {0, 0, 0},
		3: {0, 0, 0},
		4: {5, 32852, 88},
		5: {0, 0, 0}, -1: {0, 0, 0}, math.MinInt64: {0, 0, 0}, math.MaxInt64: {0, 0, 0},
	} {
		checkFirstEntry(t, b, which, 0, want[0])
		checkEntry(t, b, which, 1, want[1])
		checkEntry(t, b, which, 63, want[2])
	}
	for many := int64(0); many <= 4; many++ {
		b := disked(64, many)
		b[17], b[19], b[21] = 1, 1, 1
		for which := int64(0); which <= 5; which++ {
			var first, entry int64
			if which <= many {
				first, entry = 5, 51
			}
			checkFirstEntry(t, b, which, 0, first)
			checkEntry(t, b, which, 0, entry)
		}
	}
}

// TestShotsThatAreLostHaveNoEntries: the disk's own are read all the same.
func TestShotsThatAreLostHaveNoEntries(t *testing.T) {
	for _, shots := range []int64{0, 9, 64, 32770, 65535} {
		b := withWord(disked(64, 4), 5, shots)
		for which := int64(1); which <= 5; which++ {
			checkFirstEntry(t, b, which, 0, 0)
			checkEntry(t, b, which, 0, 0)
		}
		checkFirstEntry(t, b, 0, 0, 5)
		checkEntry(t, b, 0, 0, 51)
	}
}

// TestFirstTableThatIsNotThere: a First is a target and no entry, so that 32769
// is not the cluster 1.
func TestFirstTableThatIsNotThere(t *testing.T) {
	for _, first := range []int64{0, 9, 10, 63, 64, 32767, 32768, 32769, 32777, 65535} {
		b := withWord(withWord(disked(64, 4), 3, first), 17, first)
		for g := range int64(64) {
			checkEntry(t, b, 0, g, 0)
			checkEntry(t, b, 1, g, 0)
		}
		for slot := range int64(8) {
			checkFirstEntry(t, b, 0, slot, 0)
			checkFirstEntry(t, b, 1, slot, 0)
		}
		checkEntry(t, b, 4, 0, 51)
		checkFirstEntry(t, b, 4, 0, 5)
	}
}

// TestSecondTableThatIsNotThere: the entry that leads nowhere is told as it
// stands, own or not; nothing stands behind it.
func TestSecondTableThatIsNotThere(t *testing.T) {
	for _, target := range []int64{0, 9, 10, 63, 64, 512, 32767} {
		for _, own := range []int64{0, 32768} {
			b := withWord(disked(64, 0), 8, target+own)
			checkFirstEntry(t, b, 0, 0, target+own)
			for g := range int64(8) {
				checkEntry(t, b, 0, g, 0)
			}
			checkEntry(t, b, 0, 8, 61)
		}
	}
}

// TestOwnEntriesLeadWhereOthersDo: the mark is passed over on the way down, and
// told of what stands there.
func TestOwnEntriesLeadWhereOthersDo(t *testing.T) {
	for target := int64(1); target <= 8; target++ {
		for _, own := range []int64{0, 32768} {
			b := withWord(disked(64, 0), 8, target+own)
			checkFirstEntry(t, b, 0, 0, target+own)
			for i := range int64(8) {
				checkEntry(t, b, 0, i, b[target*8+i])
			}
		}
	}
	for _, e := range []int64{0, 1, 9, 32767, 32768, 32769, 65535} {
		b := withWord(disked(64, 0), 43, e)
		checkEntry(t, b, 0, 3, e)
	}
}

// TestPlacesInALastClusterThatLacksWords: what it lacks is 0, and what stands
// in the spare room behind the list is not part of it.
func TestPlacesInALastClusterThatLacksWords(t *testing.T) {
	whole := disked(64, 0)
	for n := 65; n <= 72; n++ {
		b := whole[:n]
		for i := range 8 {
			var want int64
			if 64+i < n {
				want = whole[64+i]
			}
			checkEntry(t, b, 0, int64(56+i), want)
			checkFirstEntry(t, withWord(b, 3, 8), 0, int64(i), want)
		}
	}
	checkEntry(t, whole[:64], 0, 56, 0)
	// A first table of which just some words are there, and which is its own
	// second one, leads on by these.
	for n := 9; n <= 16; n++ {
		b := slices.Concat(whole[:8], []int64{32769, 1, 1, 1, 1, 1, 1, 1})[:n]
		checkEntry(t, b, 0, 0, 32769)
		for slot := range int64(8) {
			var want, behind int64
			if int(8+slot) < n {
				want, behind = b[8+slot], 32769
			}
			checkFirstEntry(t, b, 0, slot, want)
			checkEntry(t, b, 0, slot, want)
			checkEntry(t, b, 0, slot*8, behind)
		}
	}
}

// TestPlacesOfAHeadAlone: the head is no table, though First may be 0.
func TestPlacesOfAHeadAlone(t *testing.T) {
	for n := 3; n <= 8; n++ {
		for _, first := range []int64{0, 1, 32768} {
			b := headed(n, impl.Head{Size: 64, First: first})
			for i := range int64(8) {
				checkFirstEntry(t, b, 0, i, 0)
				checkEntry(t, b, 0, i, 0)
			}
		}
	}
	b := withWord(disked(64, 0), 8, 32768)
	checkEntry(t, b, 0, 0, 0)
}

func TestPlacesWithoutAHead(t *testing.T) {
	lists := headless()
	for _, w := range [][2]int64{{0, 20558}, {1, 4}, {2, 0}, {2, 65}, {6, 5}, {7, 1}, {3, -1}, {71, -1}, {71, 65536}, {40, -1}} {
		lists = append(lists, withWord(disked(64, 4), int(w[0]), w[1]))
	}
	lists = append(lists, append(disked(64, 4), make([]int64, 441)...))
	for _, b := range lists {
		wantNoHead(t, "headless", b)
		for _, which := range []int64{-1, 0, 1, 2, 4, 5} {
			for _, n := range oddNumbers() {
				checkEntry(t, b, which, n, 0)
				checkFirstEntry(t, b, which, n, 0)
			}
		}
	}
}

func TestPlacesAnswerEverywhere(t *testing.T) {
	for _, length := range []int{3, 4, 8, 9, 25, 53, 72, 505, 512} {
		for _, first := range []int64{0, 1, 2, 6, 63, 64, 32769, 65535} {
			b := headed(length, impl.Head{Size: 64, First: first, Shots: 1, Many: 4})
			for _, which := range oddNumbers() {
				for _, n := range oddNumbers() {
					checkEntry(t, b, which, n, wantEntry(b, which, n))
					checkFirstEntry(t, b, which, n, wantFirstEntry(b, which, n))
				}
			}
		}
	}
}

func TestPlacesLeaveTheirArguments(t *testing.T) {
	for _, words := range append(headless(), disked(64, 4), disked(64, 4)[:67], disked(1, 0)) {
		b := guard(words)
		for which := int64(-1); which <= 5; which++ {
			for n := int64(-1); n <= 65; n++ {
				impl.EntryAt(b.list, which, n)
				impl.FirstEntry(b.list, which, n)
			}
		}
		b.check(t, "places")
	}
}
