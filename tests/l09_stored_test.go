package tests

import (
	"fmt"
	"slices"
	"testing"

	"loop.example/g00821/impl"
)

// checkStored is given what is stored of the first clusters; of the others, up
// to 64, it is 0.
func checkStored(t *testing.T, what string, b []int64, want ...int64) {
	t.Helper()
	want = append(want, make([]int64, 64-len(want))...)
	if got := impl.StoredIn(b); !same(got, want) {
		t.Errorf("%s: what is stored is\n%v, want\n%v", what, got, want)
	}
}

// checkStoredIsCounted is promise 9, of an image that is in order.
func checkStoredIsCounted(t *testing.T, what string, b []int64, want ...int64) {
	t.Helper()
	checkCounts(t, what, b, want...)
	checkStored(t, what, b, want...)
}

// wantStored tells it by the other telling of the claims: each block lays its
// words where its slot is.
func wantStored(b []int64) []int64 {
	stored := make([]int64, 64)
	for _, c := range wantClaims(b) {
		if c.Kind == 4 && c.Good {
			copy(stored[8*c.Slot:8*c.Slot+8], wantCluster(b, int(c.Target)))
		}
	}
	return stored
}

// withCounts is the image with the counts written into all of its blocks, as
// far as there are words of them.
func withCounts(b []int64) []int64 {
	written := slices.Clone(b)
	counts := wantCounts(b)
	for _, c := range wantClaims(b) {
		if c.Kind == 4 && c.Good {
			copy(written[8*c.Target:], counts[8*c.Slot:8*c.Slot+8])
		}
	}
	return written
}

// eightBlocks is an image whose Refs (the cluster 1) leads to eight blocks, the
// clusters 10 down to 3; of each cluster 100 more than its number is stored.
func eightBlocks() []int64 {
	b := laid(impl.Head{Size: 64, First: 2, Refs: 1}, []int64{10, 9, 8, 7, 6, 5, 4, 3}, nil)
	for slot := range int64(8) {
		for word := range int64(8) {
			b = append(b, 100+8*(7-slot)+word)
		}
	}
	return b
}

func TestStoredIsCounted(t *testing.T) {
	checkStoredIsCounted(t, "a disk", someDisk(), 1, 1, 1, 1, 1, 1)
	empty := laid(impl.Head{Size: 8, First: 1, Refs: 2}, nil, []int64{3}, []int64{1, 1, 1, 1})
	checkStoredIsCounted(t, "an empty disk", empty, 1, 1, 1, 1)
	checkStoredIsCounted(t, "an empty disk, its block own", withWord(empty, 16, 32771), 1, 1, 1, 1)
	shot := laid(impl.Head{Size: 20, First: 7, Refs: 6, Shots: 2, Many: 1},
		[]int64{4}, []int64{99, 1}, []int64{9}, []int64{0, 0, 3}, []int64{1, 1, 1, 2, 2, 1, 1, 1}, []int64{5}, []int64{4})
	checkStoredIsCounted(t, "a disk and a Shot of it", withWord(shot, 34, 3), 1, 1, 1, 2, 2, 1, 1, 1)
	two := laid(impl.Head{Size: 64, First: 1, Refs: 2, Shots: 9, Many: 2},
		[]int64{4, 32773}, []int64{3, 8}, []int64{1, 1, 1, 1, 3, 1, 3, 1}, []int64{0, 6}, []int64{0, 0, 32775},
		[]int64{7, 7}, []int64{8, 8}, []int64{1, 1, 1, 1}, []int64{91, 10, 92, 11}, []int64{4}, []int64{4})
	checkStoredIsCounted(t, "a disk and two Shots of it, by two blocks", two, 1, 1, 1, 1, 3, 1, 3, 1, 1, 1, 1, 1)
}

// TestStoredIsCountedAtItsMost: of 64 clusters eight are blocks, one for each of
// the slots of Refs, so that every cluster has a word.
func TestStoredIsCountedAtItsMost(t *testing.T) {
	b := laid(impl.Head{Size: 64, First: 1, Refs: 2}, []int64{3, 4, 5, 6, 7}, []int64{8, 9, 10, 11, 12, 13, 14, 15})
	for place := range int64(40) {
		b = append(b, min(16+place, 63))
	}
	b = append(b, make([]int64, 56*8)...)
	// 16 to 55 are the disk's, and 56 to 63 are nobody's.
	counts := append(slices.Repeat([]int64{1}, 56), make([]int64, 8)...)
	checkCounts(t, "not written", b, counts...)
	copy(b[64:], counts)
	checkStoredIsCounted(t, "56 clusters", b, counts...)
	// The cluster 16 is a second table now, and all of its places, and the place
	// where it was, are the last cluster.
	b[8+5] = 16
	copy(b[16*8:], slices.Repeat([]int64{63}, 8))
	b[24] = 63
	counts[63] = 9
	copy(b[64:], counts)
	checkStoredIsCounted(t, "the last one of nine", b, counts...)
}

func TestStoredIsMoreOrLess(t *testing.T) {
	for at := range 8 {
		for _, w := range []int64{0, 1, 2, 3, 500, 32767, 32768, 32769, 65535} {
			want := []int64{1, 1, 1, 1, 1, 1, 0, 0}
			want[at] = w
			what := fmt.Sprintf("%d at %d", w, at)
			checkStored(t, what, withWord(someDisk(), 24+at, w), want...)
			// What stands in a block leads nowhere.
			checkCounts(t, what, withWord(someDisk(), 24+at, w), 1, 1, 1, 1, 1, 1)
		}
	}
	b := someDisk()
	copy(b[24:], []int64{0, 2, 0, 65535, 32770, 6, 5, 4})
	checkStored(t, "all are wrong", b, 0, 2, 0, 65535, 32770, 6, 5, 4)
	copy(b[24:], make([]int64, 8))
	checkStored(t, "a block of zeros", b)
}

// TestStoredOfEveryCluster: the block that a cluster is stored in is told by
// its number alone, be it there or not.
func TestStoredOfEveryCluster(t *testing.T) {
	want := make([]int64, 64)
	for at := range want {
		want[at] = 100 + int64(at)
	}
	checkStored(t, "11 clusters", eightBlocks(), want...)
	for _, many := range []int{12, 37, 63, 64} {
		b := append(eightBlocks(), make([]int64, 8*many-88)...)
		checkStored(t, fmt.Sprint(many, " clusters"), b, want...)
	}
	for at := range 64 {
		w := slices.Clone(want)
		w[at] = 7
		checkStored(t, fmt.Sprint("another word of ", at), withWord(eightBlocks(), 8*(10-at/8)+at%8, 7), w...)
	}
	// A head, a first table, Refs and a block are all there is.
	for slot := range 8 {
		b := laid(impl.Head{Size: 1, First: 2, Refs: 1}, make([]int64, 8), nil, []int64{1, 2, 3, 4, 5, 6, 7, 8})
		b[8+slot] = 3
		want := append(make([]int64, 8*slot), 1, 2, 3, 4, 5, 6, 7, 8)
		checkStored(t, fmt.Sprint("one block, of the slot ", slot), b, want...)
	}
}

// withoutBlock is what is stored in eightBlocks but for the block of a slot.
func withoutBlock(slot int) []int64 {
	want := wantStored(eightBlocks())
	copy(want[8*slot:], make([]int64, 8))
	return want
}

func TestStoredOfSlotsWithNoTarget(t *testing.T) {
	for slot := range 8 {
		for _, w := range []int64{0, 32768} {
			checkStored(t, fmt.Sprintf("the word %d at the slot %d", w, slot), withWord(eightBlocks(), 8+slot, w), withoutBlock(slot)...)
		}
	}
	b := eightBlocks()
	copy(b[8:], []int64{0, 32768, 0, 0, 32768, 0, 0, 32768})
	checkStored(t, "no slot has a target", b)
}

// TestStoredByOwnEntries: an entry of Refs should not be own, but leads there
// all the same.
func TestStoredByOwnEntries(t *testing.T) {
	b := eightBlocks()
	want := wantStored(b)
	for slot := range 8 {
		checkStored(t, fmt.Sprint("the slot ", slot), withWord(eightBlocks(), 8+slot, b[8+slot]+32768), want...)
	}
	for slot := range 8 {
		b[8+slot] += 32768
	}
	checkStored(t, "all slots", b, want...)
	checkStored(t, "a slot that leads out", withWord(b, 8, 11+32768), withoutBlock(0)...)
	checkStored(t, "a slot that leads to another's", withWord(b, 15, 10+32768), withoutBlock(7)...)
}

func TestStoredOfBlocksThatAreNotThere(t *testing.T) {
	for slot := range 8 {
		for _, target := range []int64{11, 12, 63, 64, 65, 72, 20559, 32767} {
			what := fmt.Sprintf("%d at the slot %d", target, slot)
			checkStored(t, what, withWord(eightBlocks(), 8+slot, target), withoutBlock(slot)...)
			checkStored(t, what+", own", withWord(eightBlocks(), 8+slot, target+32768), withoutBlock(slot)...)
		}
	}
	// It tells as soon as it is there.
	b := withWord(eightBlocks(), 8, 63)
	checkStored(t, "63 clusters", append(slices.Clone(b), slices.Repeat([]int64{5}, 52*8)...), withoutBlock(0)...)
	want := withoutBlock(0)
	copy(want, slices.Repeat([]int64{5}, 8))
	checkStored(t, "64 clusters", append(slices.Clone(b), slices.Repeat([]int64{5}, 53*8)...), want...)
}

// TestStoredOfBlocksThatAreTaken: First, Refs and the slots ahead go first, and
// what stands there is not told.
func TestStoredOfBlocksThatAreTaken(t *testing.T) {
	for slot := range 8 {
		checkStored(t, "by Refs", withWord(eightBlocks(), 8+slot, 1), withoutBlock(slot)...)
		b := withWord(eightBlocks(), 8+slot, 2)
		copy(b[16:], slices.Repeat([]int64{9}, 8))
		checkStored(t, "by First", b, withoutBlock(slot)...)
	}
	for ahead := range 8 {
		for behind := ahead + 1; behind < 8; behind++ {
			b := withWord(eightBlocks(), 8+behind, int64(10-ahead))
			checkStored(t, fmt.Sprintf("the slots %d and %d", ahead, behind), b, withoutBlock(behind)...)
		}
	}
	b := eightBlocks()
	copy(b[8:], slices.Repeat([]int64{6}, 8))
	checkStored(t, "all slots", b, wantStored(eightBlocks())[32:40]...)
	// A loose claim ahead takes nothing.
	copy(b[8:], []int64{11, 1, 2, 6, 6})
	checkStored(t, "loose ones ahead", b, append(make([]int64, 24), wantStored(eightBlocks())[32:40]...)...)
}

// TestBlocksComeAheadOfAllElse: what Shots, a Shot, a first or a second table
// lead to, too, is a block.
func TestBlocksComeAheadOfAllElse(t *testing.T) {
	for _, w := range whoTells()[3:] {
		b := withWord(oneOfEach(), w.at, 3)
		copy(b[24:], []int64{1, 2, 3, 4, 5, 6, 7, 8})
		checkStored(t, fmt.Sprint("the kind ", w.kind), b, append(make([]int64, 16), 1, 2, 3, 4, 5, 6, 7, 8)...)
	}
	b := oneOfEach()
	for target := int64(4); target <= 8; target++ {
		want := append(make([]int64, 16), wantCluster(b, int(target))...)
		checkStored(t, fmt.Sprint("the block is ", target), withWord(b, 18, target), want...)
	}
}

func TestStoredWhereRefsLeadsNowhere(t *testing.T) {
	for _, refs := range []int64{0, 11, 12, 63, 64, 65, 32767, 32768, 32769, 65535} {
		checkStored(t, fmt.Sprint("Refs is ", refs), withWord(eightBlocks(), 4, refs))
	}
	b := eightBlocks()
	b[3] = 1
	checkStored(t, "Refs is First, and has blocks", b)
	checkStored(t, "no First, either", withWord(withWord(b, 3, 0), 4, 0))
	checkStored(t, "Refs is Refs again", withWord(b, 3, 0), wantStored(eightBlocks())...)
	checkStored(t, "First is not there", withWord(b, 3, 65535), wantStored(eightBlocks())...)
	for n := 3; n <= 8; n++ {
		checkStored(t, "a head alone", laid(impl.Head{Size: 64, Refs: 1})[:n])
	}
	checkStored(t, "Refs is the last cluster", laid(impl.Head{Size: 64, Refs: 2}, []int64{4, 5, 6}, []int64{0, 1}), append(make([]int64, 8), 4, 5, 6)...)
	checkStored(t, "Refs is not there by one", laid(impl.Head{Size: 64, Refs: 3}, []int64{4, 5, 6}, []int64{0, 1}))
}

// TestOnlyRefsTellsBlocks: what First, Shots and others lead to is not stored.
func TestOnlyRefsTellsBlocks(t *testing.T) {
	checkStored(t, "all kinds", allKinds(), 1, 1, 1, 1, 1, 1, 1, 2)
	b := laid(impl.Head{Size: 64, First: 1, Refs: 2, Shots: 3, Many: 1}, []int64{5, 6}, nil, []int64{91, 4}, []int64{5}, []int64{7, 7}, []int64{7}, []int64{9, 9})
	checkStored(t, "Refs of zeros", b)
	checkStored(t, "a block past the disk's end", withWord(eightBlocks(), 2, 1), wantStored(eightBlocks())...)
}

// TestStoredInALastClusterThatLacksWords: one word makes it a cluster, and what
// it lacks is 0, though words stand in the spare room behind.
func TestStoredInALastClusterThatLacksWords(t *testing.T) {
	whole := laid(impl.Head{Size: 64, First: 1, Refs: 2}, nil, []int64{0, 3}, []int64{11, 12, 13, 14, 15, 16, 17, 18})
	checkStored(t, "no word of a block", whole[:24])
	for n := 1; n <= 8; n++ {
		want := append(make([]int64, 8), whole[24:24+n]...)
		checkStored(t, fmt.Sprint(n, " words of a block"), whole[:24+n], want...)
	}
	whole = laid(impl.Head{Size: 64, First: 1, Refs: 3}, nil, []int64{5, 6, 7}, []int64{0, 0, 2, 0, 0, 0, 0, 2})
	for n := 1; n <= 8; n++ {
		want := make([]int64, 64)
		if n > 2 {
			copy(want[16:], []int64{5, 6, 7})
		}
		checkStored(t, fmt.Sprint(n, " words of Refs"), whole[:24+n], want...)
	}
}

func TestStoredWithoutAHead(t *testing.T) {
	lists := nearlyAllKinds()
	for _, w := range [][2]int64{{0, 0}, {1, 4}, {2, 0}, {2, 65}, {6, 5}, {7, 1}, {24, -1}, {30, 65536}} {
		lists = append(lists, withWord(someDisk(), int(w[0]), w[1]))
	}
	for i, b := range lists {
		wantNoHead(t, "headless", b)
		if stored := impl.StoredIn(b); len(stored) != 0 {
			t.Errorf("the list %d: %v is stored", i, stored)
		}
	}
	checkStored(t, "512 words", append(allKinds(), make([]int64, 392)...), 1, 1, 1, 1, 1, 1, 1, 2)
}

// TestStoredOfBrokenImages: whatever is broken, what is stored is as the other
// telling has it; and where the counts are written into the blocks, promise 9
// holds but for clusters that no block has a word of.
func TestStoredOfBrokenImages(t *testing.T) {
	var met [3]int
	check := func(b []int64) []int64 {
		stored, want := impl.StoredIn(b), wantStored(b)
		if !same(stored, want) {
			t.Fatalf("%v: what is stored is\n%v, want\n%v", b, stored, want)
		}
		return stored
	}
	brokenImages(20000, func(b []int64) {
		check(b)
		written := withCounts(b)
		stored := check(written)
		for at, count := range impl.CountsIn(written) {
			switch stored[at] {
			case count:
				met[min(count, 1)]++
			case 0:
				met[2]++
			default:
				t.Fatalf("%v: %d is stored of %d, the count is %d", written, stored[at], at, count)
			}
		}
	})
	if slices.Min(met[:]) < 1000 {
		t.Errorf("some are met too seldom: %v", met)
	}
}

func TestStoredAnswersEverywhere(t *testing.T) {
	headedImages(func(b []int64) {
		checkStored(t, fmt.Sprint(len(b), " words"), b, wantStored(b)...)
	})
}

func TestStoredLeavesItsArgument(t *testing.T) {
	for _, words := range append(headless(), allKinds(), allKinds()[:117], oneOfEach(), eightBlocks(), eightBlocks()[:83]) {
		b := guard(words)
		spoil(impl.StoredIn(b.list))
		b.check(t, "stored")
	}
}

// TestStoredAnswersAnew: an answer that somebody wrote over is not given again.
func TestStoredAnswersAnew(t *testing.T) {
	b := eightBlocks()
	kept := impl.StoredIn(b)
	spoil(impl.StoredIn(b))
	if !same(kept, wantStored(b)) {
		t.Error("two answers share memory")
	}
	checkStored(t, "asked again", b, wantStored(b)...)
}
