package tests

import (
	"fmt"
	"slices"
	"testing"

	"loop.example/g00821/impl"
)

// wantCounted tells it by the other telling of the claims, of an image that has
// a head.
func wantCounted(b []int64) []int64 {
	for _, c := range wantLoose(b) {
		if c != looseClaim(3, 0, 0, 0, 0) {
			return nil
		}
	}
	want := filledUp(b)
	if want[4] == 0 {
		want[4] = int64(len(want) / 8)
		want = append(want, make([]int64, 8)...)
	}
	for len(want) <= 512 {
		slot := slices.Index(wantBlocks(want), false)
		if slot < 0 {
			return withCounts(want)
		}
		want[8*want[4]+int64(slot)] = int64(len(want) / 8)
		want = append(want, make([]int64, 8)...)
	}
	return nil
}

// wantBlocks tells of each eight clusters whether they have a block, or need
// none.
func wantBlocks(b []int64) []bool {
	var have []bool
	for eight := range slices.Chunk(wantCounts(b), 8) {
		have = append(have, slices.Max(eight) == 0)
	}
	for _, c := range wantClaims(b) {
		if c.Kind == 4 && c.Good {
			have[c.Slot] = true
		}
	}
	return have
}

// checkCounted holds the answer against the one that is wanted, and is promise
// 14 where that is not nothing.
func checkCounted(t *testing.T, what string, b, want []int64) {
	t.Helper()
	got := impl.Counted(b)
	if !same(got, want) {
		t.Errorf("%s: what is counted anew is\n%v, want\n%v", what, got, want)
	}
	if len(got) > 0 {
		checkStoredAsCounted(t, what, b, got)
	}
}

// checkStoredAsCounted is promise 14; and that nothing is loose then, that who
// is counted again stays, and that no word is another one that is not in Refs,
// in a block, or the head's word of Refs.
func checkStoredAsCounted(t *testing.T, what string, b, counted []int64) {
	t.Helper()
	stored, counts := impl.StoredIn(counted), impl.CountsIn(counted)
	if len(stored) != 64 || !same(stored, counts) {
		t.Fatalf("%s: what is stored is\n%v, what is counted\n%v", what, stored, counts)
	}
	if loose := impl.LooseIn(counted); len(loose) != 0 {
		t.Fatalf("%s: %v is loose in what is counted anew", what, loose)
	}
	if again := impl.Counted(counted); !same(again, counted) {
		t.Fatalf("%s: counted again it is\n%v, and was\n%v", what, again, counted)
	}
	roles, was := impl.RolesIn(counted), filledUp(b)
	if len(counted) < len(was) || len(counted)%8 != 0 {
		t.Fatalf("%s: %d words are counted anew, and %d were", what, len(counted), len(b))
	}
	for at, w := range was {
		role := roles[at/8]
		if counted[at] != w && role != impl.ClRefs && role != impl.ClBlock && (at != 4 || w != 0) {
			t.Fatalf("%s: the word %d is %d, and was %d, in a cluster of the role %d", what, at, counted[at], w, role)
		}
	}
}

// strewn is an image of that many clusters: a head, First, Refs, the second
// table of the places 0 to 7 with these entries, and all behind it that nobody
// leads to, but they, with a number in each word.
func strewn(many int, refs []int64, entries ...int64) []int64 {
	b := laid(impl.Head{Size: 64, First: 1, Refs: 2}, []int64{32771}, refs, entries)
	for at := len(b); at < 8*many; at++ {
		b = append(b, 40000+int64(at))
	}
	return b
}

// more is the image with other words in its cluster 2, which is Refs, and with
// clusters behind it.
func more(b []int64, refs []int64, clusters ...[]int64) []int64 {
	b = slices.Clone(b)
	copy(b[16:24], refs)
	for _, c := range clusters {
		b = append(b, wantCluster(c, 0)...)
	}
	return b
}

func TestCountedOfWhatIsRight(t *testing.T) {
	for i, b := range append(soundImages(), withWord(inOrder(), 80, 32776), withWord(someDisk(), 16, 32771)) {
		what := fmt.Sprint("the image ", i)
		if !same(impl.StoredIn(b), impl.CountsIn(b)) {
			t.Fatalf("%s: it is not right", what)
		}
		checkCounted(t, what, b, b)
	}
}

// TestWrongCountsArePutRight is of every word of the blocks of images that are
// in order, too high and too low.
func TestWrongCountsArePutRight(t *testing.T) {
	for i, sound := range soundImages() {
		all := slices.Clone(sound)
		for _, c := range wantClaims(sound) {
			if c.Kind != 4 {
				continue
			}
			for at := int(8 * c.Target); at < int(8*c.Target+8); at++ {
				for _, w := range []int64{0, 1, 2, 5, 500, 32768, 32769, 65535} {
					checkCounted(t, fmt.Sprintf("the sound image %d, %d at %d", i, w, at), withWord(sound, at, w), sound)
				}
				all[at] = 9 - all[at]
			}
		}
		checkCounted(t, fmt.Sprintf("the sound image %d, all are wrong", i), all, sound)
	}
	// What the block tells of the block itself, too, and of none that is there.
	checkCounted(t, "all are 7", more(someDisk()[:24], nil, []int64{7, 7, 7, 7, 7, 7, 7, 7}, []int64{0, 0, 32773}, []int64{1}),
		more(someDisk()[:24], nil, []int64{1, 1, 1, 1, 1, 1}, []int64{0, 0, 32773}, []int64{1}))
}

// TestCountsAboveOneAreStored: of what several lead to, as many as do.
func TestCountsAboveOneAreStored(t *testing.T) {
	b := strewn(7, []int64{6}, 4, 4, 32773, 4, 4, 4, 4, 4)
	copy(b[48:], make([]int64, 8))
	checkCounted(t, "one of seven", b, withWords(b, [2]int64{48, 1}, [2]int64{49, 1}, [2]int64{50, 1}, [2]int64{51, 1}, [2]int64{52, 7}, [2]int64{53, 1}, [2]int64{54, 1}))
	// Five first tables have one second table, and each of its places is one
	// cluster: that is 40.
	b = laid(impl.Head{Size: 8, First: 1, Refs: 2, Shots: 3, Many: 4},
		[]int64{8}, []int64{0, 10}, []int64{91, 4, 92, 5, 93, 6, 94, 7}, []int64{8}, []int64{8}, []int64{8}, []int64{8}, slices.Repeat([]int64{9}, 8), nil, nil)
	want := more(b, []int64{11, 10}, []int64{1, 1, 1, 1, 1, 1, 1, 1})
	copy(want[80:], []int64{5, 40, 1, 1})
	checkCounted(t, "forty of one", b, want)
	// With all of its places there are 320.
	b = fullDisk(64)
	b[5], b[6] = 12, 4
	b = append(b, 91, 13, 92, 14, 93, 15, 94, 16)
	for range 4 {
		b = append(b, b[8:16]...)
	}
	want = append(withWord(b, 4, 11), make([]int64, 24)...)
	copy(want[88:], []int64{17, 18, 19})
	copy(want[17*8:], []int64{1, 1, 5, 5, 5, 5, 5, 5, 5, 5, 320, 1, 1, 1, 1, 1, 1, 1, 1, 1})
	checkCounted(t, "320 of one", b, want)
}

// TestRefsIsMade: where it is 0, and there it is alone that is loose.
func TestRefsIsMade(t *testing.T) {
	// The least that there can be is a disk as it is made anew.
	for n := 9; n <= 16; n++ {
		checkCounted(t, fmt.Sprint("a head and First, of ", n, " words"), laid(impl.Head{Size: 8, First: 1}, nil)[:n],
			laid(impl.Head{Size: 8, First: 1, Refs: 2}, nil, []int64{3}, []int64{1, 1, 1, 1}))
	}
	b := withWord(someDisk(), 4, 0)
	checkLoose(t, "a disk", b, looseClaim(3, 0, 0, 0, 0))
	// What was Refs is nobody's then, and the block that it led to; no word of
	// them is used again.
	checkCounted(t, "a disk", b, append(withWord(b, 4, 6), 7, 0, 0, 0, 0, 0, 0, 0, 1, 1, 0, 0, 1, 1, 1, 1))
	// Refs, and the two blocks, are behind Shots that lead on.
	b = withWord(inOrder(), 4, 0)
	checkLoose(t, "a disk with Shots", b, looseClaim(3, 0, 0, 0, 0))
	want := append(withWord(b, 4, 15), 16, 17, 18, 0, 0, 0, 0, 0)
	want = append(want, 1, 0, 1, 1, 2, 1, 2, 1, 0, 1, 0, 1, 1, 2, 3, 1, 1, 1, 1, 0, 0, 0, 0, 0)
	checkCounted(t, "a disk with Shots", b, want)
	// It needs a block itself: seven clusters have one eight, and Refs is in it,
	// and eight have it in the next one.
	b = withWord(strewn(7, nil), 4, 0)
	checkCounted(t, "seven clusters", b, append(withWord(b, 4, 7), 8, 9, 0, 0, 0, 0, 0, 0, 1, 1, 0, 1, 0, 0, 0, 1, 1, 1, 0, 0, 0, 0, 0, 0))
	b = withWord(strewn(8, nil), 4, 0)
	checkCounted(t, "eight clusters", b, append(withWord(b, 4, 8), 9, 10, 0, 0, 0, 0, 0, 0, 1, 1, 0, 1, 0, 0, 0, 0, 1, 1, 1, 0, 0, 0, 0, 0))
}

// TestRefsThatIsThereIsUsed: no other one is made, wherever it is, and whatever
// blocks it lacks.
func TestRefsThatIsThereIsUsed(t *testing.T) {
	for refs := int64(2); refs <= 40; refs++ {
		b := laid(impl.Head{Size: 8, First: 1, Refs: refs}, make([][]int64, 40)...)
		want := slices.Clone(b)
		// The last eight are those of the blocks themselves.
		for _, slot := range slices.Compact([]int64{0, refs / 8, 5}) {
			want[8*refs+slot] = int64(len(want) / 8)
			want = append(want, make([]int64, 8)...)
		}
		checkCounted(t, fmt.Sprint("Refs is ", refs), b, withCounts(want))
	}
}

// TestBlocksAreMade: behind the others, each in its slot, the first of the
// eights first.
func TestBlocksAreMade(t *testing.T) {
	b := strewn(4, nil)
	checkCounted(t, "no block", b, more(b, []int64{4}, []int64{1, 1, 1, 1, 1}))
	b = strewn(5, nil, 4, 32772)
	checkCounted(t, "no block, a cluster of two", b, more(b, []int64{5}, []int64{1, 1, 1, 1, 2, 1}))
	b = strewn(48, nil, 40, 12)
	checkCounted(t, "three that are missing, and one more", b, more(b, []int64{48, 49, 0, 0, 0, 50, 51},
		[]int64{1, 1, 1, 1}, []int64{0, 0, 0, 0, 1}, []int64{1}, []int64{1, 1, 1, 1}))
	b = strewn(48, []int64{0, 20, 0, 0, 0, 47}, 12, 40)
	want := more(b, []int64{48, 20, 49, 0, 0, 47, 50}, []int64{1, 1, 1, 1}, []int64{0, 0, 0, 0, 1}, []int64{1, 1, 1})
	copy(want[20*8:], []int64{0, 0, 0, 0, 1, 0, 0, 0})
	copy(want[47*8:], []int64{1, 0, 0, 0, 0, 0, 0, 1})
	checkCounted(t, "between those that are there", b, want)
	// Who leads where is told by the slots alone, and not by which is the first to
	// be read: the places are the other way round here.
	for _, entries := range [][]int64{{12, 20, 28}, {28, 20, 12}, {20, 12, 28, 12}, {32788, 28, 32780}} {
		b = strewn(30, []int64{29}, entries...)
		got := impl.Counted(b)
		if len(got) != 34*8 || !same(got[16:24], []int64{29, 30, 31, 32, 33, 0, 0, 0}) {
			t.Errorf("%v: what is counted anew is %v", entries, got)
		}
		checkCounted(t, fmt.Sprint(entries), b, wantCounted(b))
	}
}

// TestEachSlotThatLacksABlock is of one eight in which one cluster is led to, and
// of each cluster of it.
func TestEachSlotThatLacksABlock(t *testing.T) {
	for at := int64(8); at < 64; at++ {
		slot := at / 8
		b := strewn(int(8*slot+8), []int64{4}, at)
		// The last of the eights is full, so that a block that is made needs one more.
		refs := []int64{4, 0, 0, 0, 0, 0, 0, 0}
		want := slices.Clone(b)
		copy(want[32:], []int64{1, 1, 1, 1, 1, 0, 0, 0})
		block := make([]int64, 8)
		block[at%8] = 1
		if slot == 7 {
			checkCounted(t, fmt.Sprint(at, ", there is no room"), b, nil)
			continue
		}
		refs[slot], refs[slot+1] = 8*slot+8, 8*slot+9
		checkCounted(t, fmt.Sprint(at), b, more(want, refs, block, []int64{1, 1}))
		// With one cluster less, the block has its own count in it.
		if at%8 == 7 {
			continue
		}
		b, want = b[:len(b)-8], want[:len(b)-8]
		refs[slot], refs[slot+1] = 8*slot+7, 0
		block[7] = 1
		checkCounted(t, fmt.Sprint(at, ", one cluster less"), b, more(want, refs, block))
	}
}

// TestBlocksThatNeedABlock: the new one lies among eight that had none.
func TestBlocksThatNeedABlock(t *testing.T) {
	b := strewn(7, nil)
	checkCounted(t, "it is the last of its eight", b, more(b, []int64{7}, []int64{1, 1, 1, 1, 0, 0, 0, 1}))
	b = strewn(8, nil)
	checkCounted(t, "it is the first of the next eight", b, more(b, []int64{8, 9}, []int64{1, 1, 1, 1}, []int64{1, 1}))
	b = strewn(15, nil)
	checkCounted(t, "and so is the next one", b, more(b, []int64{15, 16, 17}, []int64{1, 1, 1, 1}, []int64{0, 0, 0, 0, 0, 0, 0, 1}, []int64{1, 1}))
	b = strewn(9, []int64{4}, 8)
	checkCounted(t, "its own count is in it", b, withCounts(more(b, []int64{4, 9}, nil)))
	b = strewn(16, []int64{4}, 8)
	want := more(b, []int64{4, 16, 17}, []int64{1}, []int64{1, 1})
	copy(want[32:], []int64{1, 1, 1, 1, 1, 0, 0, 0})
	checkCounted(t, "its own count is not in it", b, want)
	// The block of the eight in which it is was there already, ahead of any need.
	b = strewn(16, []int64{4, 0, 5}, 8)
	want = more(b, []int64{4, 16, 5}, []int64{1})
	copy(want[32:], []int64{1, 1, 1, 1, 1, 1, 0, 0, 1, 0, 0, 0, 0, 0, 0, 0})
	checkCounted(t, "there is a block of it", b, want)
	// Each of eight eights needs one: what is made last is the cluster 62.
	b = strewn(55, nil, 8, 16, 24, 32, 40, 48)
	want = more(b, []int64{55, 56, 57, 58, 59, 60, 61, 62},
		[]int64{1, 1, 1, 1}, []int64{1}, []int64{1}, []int64{1}, []int64{1}, []int64{1}, []int64{1, 0, 0, 0, 0, 0, 0, 1}, []int64{1, 1, 1, 1, 1, 1, 1})
	checkCounted(t, "all eight of them", b, want)
}

// TestBlocksOfNoCountsStay: they are there all the same, and their words are 0;
// they are counted themselves.
func TestBlocksOfNoCountsStay(t *testing.T) {
	b := withWord(oneOfEach(), 6, 1)
	// The block is that of 16 to 23, of which none is there.
	want := withWords(b, [2]int64{16, 9}, [2]int64{17, 10})
	copy(want[24:], make([]int64, 8))
	want = append(want, 1, 1, 1, 1, 1, 1, 1, 1, 0, 1, 1, 0, 0, 0, 0, 0)
	checkCounted(t, "one of each kind", b, want)
	for slot := 1; slot < 8; slot++ {
		b := strewn(6, []int64{4}, 0)
		b[16+slot] = 5
		want := slices.Clone(b)
		copy(want[32:], []int64{1, 1, 1, 1, 1, 1, 0, 0, 0, 0, 0, 0, 0, 0, 0, 0})
		checkCounted(t, fmt.Sprint("a block in the slot ", slot), b, want)
	}
	b = eightBlocks()
	want = more(b[:24], nil, nil, nil, nil, nil, nil, nil, []int64{1, 1, 1}, []int64{1, 1, 1, 1, 1, 1, 1, 1})
	checkCounted(t, "eight blocks", b, want)
}

// TestSlotsOfRefsStayAsTheyAre: but for those that get a block. An own entry
// leads to its block all the same; and the flag alone leads nowhere.
func TestSlotsOfRefsStayAsTheyAre(t *testing.T) {
	b := strewn(6, []int64{32772, 32768, 0, 32773, 0, 32768, 0, 32768})
	want := slices.Clone(b)
	copy(want[32:], []int64{1, 1, 1, 1, 1, 1, 0, 0, 0, 0, 0, 0, 0, 0, 0, 0})
	checkCounted(t, "own ones", b, want)
	b = strewn(15, slices.Repeat([]int64{32768}, 8))
	checkCounted(t, "the flag alone", b, more(b, []int64{15, 16, 17, 32768, 32768, 32768, 32768, 32768},
		[]int64{1, 1, 1, 1}, []int64{0, 0, 0, 0, 0, 0, 0, 1}, []int64{1, 1}))
	// The flags of the tables stay, be they right or wrong.
	b = withWords(inOrder(), [2]int64{72, 5}, [2]int64{74, 32772}, [2]int64{41, 12}, [2]int64{104, 32768})
	checkCounted(t, "flags that are wrong", b, b)
}

func TestWhoHasALooseClaimIsNotCounted(t *testing.T) {
	for _, w := range whoTells() {
		for _, target := range []int64{0, 9, 10, 11, 63, 64, 65, 20559, 32767, 32768, 65535} {
			what := fmt.Sprintf("the kind %d of %d", w.kind, target)
			b := withWords(oneOfEach(), [2]int64{6, 1}, [2]int64{int64(w.at), target})
			// A slot whose target is 0 makes no claim; and Refs is made where it is 0.
			can := w.isEntry && target%32768 == 0 || w.kind == 3 && target == 0
			if got := impl.Counted(b); can != (len(got) > 0) {
				t.Errorf("%s: what is counted anew is %v", what, got)
			}
			checkCounted(t, what, b, wantCounted(b))
		}
	}
	for _, c := range []struct {
		what string
		b    []int64
	}{
		{"First is 0", withWord(someDisk(), 3, 0)},
		{"First and Refs are 0", withWords(someDisk(), [2]int64{3, 0}, [2]int64{4, 0})},
		{"First and Refs are one", withWord(someDisk(), 4, 1)},
		{"Refs is how many there are", withWord(someDisk(), 4, 6)},
		{"Refs is own", withWord(someDisk(), 4, 32770)},
		{"a First as many as there are, and Refs 0", withWords(someDisk(), [2]int64{3, 6}, [2]int64{4, 0})},
		{"Shots of 0", withWord(someDisk(), 6, 1)},
		{"a Shot of 0", withWords(inOrder(), [2]int64{89, 0})},
		{"a Shot of 0, and Refs 0", withWords(inOrder(), [2]int64{4, 0}, [2]int64{89, 0})},
		{"a block twice", withWord(someDisk(), 17, 3)},
		{"a block twice, own", withWord(someDisk(), 23, 32771)},
		{"Refs is a block of it", withWord(someDisk(), 16, 2)},
		{"a place past the disk's end", withWord(inOrder(), 75, 12)},
		{"a place of the disk past its end", withWord(inOrder(), 36, 12)},
		{"one second table at two places", withWord(someDisk(), 9, 4)},
		{"a cluster of the disk that is a table", withWord(someDisk(), 32, 4)},
		{"a cluster of the disk that is a block", withWord(someDisk(), 39, 3)},
		{"a cluster of the disk that is Refs", withWord(someDisk(), 39, 2)},
		{"a cluster of the disk that is not there", withWord(someDisk(), 39, 63)},
	} {
		if loose := impl.LooseIn(c.b); len(loose) == 0 || len(loose) == 1 && loose[0] == looseClaim(3, 0, 0, 0, 0) {
			t.Errorf("%s: the loose claims %v", c.what, loose)
		}
		checkCounted(t, c.what, c.b, nil)
	}
	// Without Refs, its cluster and its blocks are free for others.
	b := withWords(someDisk(), [2]int64{4, 0}, [2]int64{39, 2})
	checkCounted(t, "Refs is 0, and its cluster is the disk's", b, append(withWord(b, 4, 6), 7, 0, 0, 0, 0, 0, 0, 0, 1, 1, 1, 0, 1, 1, 1, 1))
	b = withWord(someDisk(), 5, 9)
	checkCounted(t, "Shots that are none", b, b)
}

// TestNewClustersAreNotThereYet: what leads to the number of one that would be
// made leads nowhere, and so nothing is made.
func TestNewClustersAreNotThereYet(t *testing.T) {
	for _, target := range []int64{15, 16, 17, 18} {
		checkCounted(t, fmt.Sprint("a cluster of the disk that is ", target), strewn(15, nil, target), nil)
		checkCounted(t, fmt.Sprint("a block that is ", target), strewn(15, []int64{0, target}), nil)
		checkCounted(t, fmt.Sprint("Refs that is ", target), withWord(strewn(15, nil), 4, target), nil)
		checkCounted(t, fmt.Sprint("Refs 0, and a cluster of the disk that is ", target), withWord(strewn(15, nil, target), 4, 0), nil)
	}
}

// TestRoomForWhatIsMade: up to 64 clusters there are, and no more.
func TestRoomForWhatIsMade(t *testing.T) {
	for _, c := range []struct {
		what string
		b    []int64
		want int
	}{
		{"63, nothing is missing", strewn(63, []int64{4}), 63},
		{"64, nothing is missing", strewn(64, []int64{4}), 64},
		{"64, and all blocks", strewn(64, []int64{4, 5, 6, 7, 8, 9, 10, 11}, 63), 64},
		{"63, a block is missing, and there is one of the last eight", strewn(63, []int64{4, 0, 0, 0, 0, 0, 0, 5}, 8), 64},
		{"63, the block of the last eight is missing", strewn(63, []int64{4}, 60), 64},
		{"63, two blocks are missing", strewn(63, []int64{4}, 60, 8), 0},
		{"63, a block is missing, and its own one", strewn(63, []int64{4}, 8), 0},
		{"63, the first block is missing, and its own one", strewn(63, nil), 0},
		{"62, a block is missing, and its own one", strewn(62, []int64{4}, 8), 64},
		{"62, two blocks are missing, and their own one", strewn(62, []int64{4}, 8, 16), 0},
		{"61, two blocks are missing, and their own one", strewn(61, []int64{4}, 8, 16), 64},
		{"64, a block is missing", strewn(64, []int64{4}, 8), 0},
		{"64, the first block is missing", strewn(64, nil), 0},
		{"64, the last block is missing", strewn(64, []int64{4}, 63), 0},
		{"64, all blocks but the last one, which nobody needs", strewn(64, []int64{4, 5, 6, 7, 8, 9, 10}, 55), 64},
		{"60, Refs is 0", withWord(strewn(60, nil), 4, 0), 63},
		{"61, Refs is 0", withWord(strewn(61, nil), 4, 0), 64},
		{"62, Refs is 0", withWord(strewn(62, nil), 4, 0), 0},
		{"63, Refs is 0", withWord(strewn(63, nil), 4, 0), 0},
		{"64, Refs is 0", withWord(strewn(64, nil), 4, 0), 0},
		{"54, Refs is 0, and all blocks are missing", withWord(strewn(54, nil, 8, 16, 24, 32, 40, 48), 4, 0), 63},
		{"55, Refs is 0, and all blocks are missing", withWord(strewn(55, nil, 8, 16, 24, 32, 40, 48), 4, 0), 64},
		{"56, Refs is 0, and all blocks are missing", withWord(strewn(56, nil, 8, 16, 24, 32, 40, 48), 4, 0), 0},
		{"55, all blocks are missing", strewn(55, nil, 8, 16, 24, 32, 40, 48), 63},
		{"56, all blocks are missing", strewn(56, nil, 8, 16, 24, 32, 40, 48), 64},
		{"57, all blocks are missing", strewn(57, nil, 8, 16, 24, 32, 40, 48), 0},
	} {
		// One word is a cluster, too, and so are all but one.
		for _, short := range []int{0, 1, 7} {
			b := c.b[:len(c.b)-short]
			if got := impl.Counted(b); len(got) != 8*c.want {
				t.Errorf("%s, %d words: %d words are counted anew, want %d", c.what, len(b), len(got), 8*c.want)
			}
			checkCounted(t, c.what, b, wantCounted(b))
		}
	}
}

// TestCountedOfEveryLength is of images in which a block is missing, is there,
// and in which Refs is: all clusters are whole then, though one more word stands
// in the spare room behind.
func TestCountedOfEveryLength(t *testing.T) {
	images := [][]int64{strewn(64, nil), strewn(64, []int64{4}), withWord(strewn(64, nil), 4, 0), strewn(64, []int64{4}, 10, 20)}
	for i, long := range images {
		for n := 9; n <= 512; n++ {
			b := long[:n]
			what := fmt.Sprintf("the image %d, %d words", i, n)
			checkCounted(t, what, b, wantCounted(b))
			if got := impl.Counted(b); len(got)%8 != 0 || i == 1 && n > 32 && len(got) != (n+7)/8*8 {
				t.Errorf("%s: %d are counted anew", what, len(got))
			}
		}
	}
}

// TestCountedOfALastClusterThatLacksWords is of a last cluster of each role that
// is written into, and of one that is not.
func TestCountedOfALastClusterThatLacksWords(t *testing.T) {
	for n := 1; n < 8; n++ {
		what := fmt.Sprint(n, " words of eight")
		block := laid(impl.Head{Size: 8, First: 1, Refs: 2}, nil, []int64{3}, []int64{9, 9, 9, 9, 9, 9, 9, 9})
		checkCounted(t, "a block, "+what, block[:24+n], laid(impl.Head{Size: 8, First: 1, Refs: 2}, nil, []int64{3}, []int64{1, 1, 1, 1}))
		refs := laid(impl.Head{Size: 8, First: 1, Refs: 3}, nil, nil, slices.Repeat([]int64{32768}, 8))
		words := wantCluster(refs[24:24+n], 0)
		words[0] = 4
		checkCounted(t, "Refs, "+what, refs[:24+n], laid(impl.Head{Size: 8, First: 1, Refs: 3}, nil, nil, words, []int64{1, 1, 0, 1, 1}))
		nobodys := append(someDisk(), counting(8)...)
		checkCounted(t, "nobody's, "+what, nobodys[:48+n], append(someDisk(), wantCluster(counting(n), 0)...))
		checkCounted(t, "nobody's, a wrong count, "+what, withWord(nobodys, 24, 0)[:48+n], append(someDisk(), wantCluster(counting(n), 0)...))
	}
}

func TestCountedKeepsNamesAndContents(t *testing.T) {
	for i, b := range [][]int64{inOrder(), withWord(inOrder(), 4, 0), withWord(inOrder(), 81, 0), withWord(inOrder(), 64, 9), allKinds(), strewn(40, nil, 10, 20, 30, 39)} {
		counted := impl.Counted(b)
		if len(counted) == 0 {
			t.Fatalf("the image %d can't be counted anew", i)
		}
		checkNames(t, fmt.Sprint("the image ", i), counted, impl.NamesIn(b)...)
		for which := range int64(3) {
			for g := range b[2] {
				if got, want := impl.ContentOf(counted, which, g), impl.ContentOf(b, which, g); !same(got, want) {
					t.Errorf("the image %d: the cluster %d of %d is %v, and was %v", i, g, which, got, want)
				}
			}
		}
		for _, d := range impl.DefectsIn(counted) {
			if d.Kind == impl.DfFew || d.Kind == impl.DfMany {
				t.Errorf("the image %d: %v is a defect of what is counted anew", i, d)
			}
		}
	}
}

func TestCountedWithoutAHead(t *testing.T) {
	lists := append(nearlyAllKinds(), headless()...)
	lists = append(lists, nil, []int64{}, make([]int64, 7), make([]int64, 512), make([]int64, 513))
	for _, w := range [][2]int64{{0, 0}, {0, 20558}, {1, 4}, {2, 0}, {2, 65}, {6, 5}, {7, 1}, {3, -1}, {3, 65536}, {4, -1}, {24, -1}, {24, 65536}, {47, 65536}} {
		lists = append(lists, withWord(someDisk(), int(w[0]), w[1]))
	}
	lists = append(lists, append(someDisk(), make([]int64, 465)...), append(someDisk(), -1))
	for i, b := range lists {
		wantNoHead(t, "headless", b)
		if got := impl.Counted(b); len(got) != 0 {
			t.Errorf("the list %d: what is counted anew is %v, want nothing", i, got)
		}
	}
	// A head alone has a loose claim, that of First.
	for n := 3; n <= 8; n++ {
		checkCounted(t, fmt.Sprint("a head of ", n, " words"), laid(impl.Head{Size: 64})[:n], nil)
	}
}

// tightForms are of a broken image what is left of it when it is cleared (and
// its second tables are refound); that without Refs; that with clusters behind
// it, to some of which empty slots of its second tables lead; and both.
func tightForms(broken []int64) [][]int64 {
	b := impl.Cleared(broken)
	if b[3] == 0 {
		b = impl.Cleared(impl.Refound(b))
	}
	long := slices.Clone(b)
	for range (broken[8] + broken[9]) % 8 * 8 {
		long = append(long, slices.Repeat([]int64{32769}, 8)...)
	}
	next := int64(len(b) / 8)
	for _, c := range wantClaims(b) {
		for slot := range int64(8) {
			empty := c.Kind == 7 && c.Good && c.Place+slot < b[2] && long[8*c.Target+slot]%32768 == 0
			if empty && next < int64(len(long)/8) {
				long[8*c.Target+slot] = next
				next += 5
			}
		}
	}
	return [][]int64{b, withWord(b, 4, 0), long, withWord(long, 4, 0)}
}

// TestCountedOfBrokenImages is promise 14 at large: of what is broken, mostly
// nothing; and of each that nothing is loose in any more. It was met that there
// is no room, and that some, several, or no clusters are made.
func TestCountedOfBrokenImages(t *testing.T) {
	met := make(map[string]int)
	brokenImages(1000, func(broken []int64) {
		what := fmt.Sprint(broken)
		checkCounted(t, what, broken, wantCounted(broken))
		if len(impl.Counted(broken)) == 0 {
			met["loose"]++
		}
		for _, b := range tightForms(broken) {
			what := fmt.Sprint(b)
			if loose := wantLoose(b); len(loose) > 1 || len(loose) == 1 && loose[0] != looseClaim(3, 0, 0, 0, 0) {
				t.Fatalf("%s: %v is loose", what, loose)
			}
			checkCounted(t, what, b, wantCounted(b))
			switch made := len(wantCounted(b)) - len(b); {
			case made < 0:
				met["no room"]++
			case made < 32:
				met[fmt.Sprint(made/8, " are made")]++
			default:
				met["more are made"]++
			}
		}
	})
	for _, each := range []string{"loose", "no room", "0 are made", "1 are made", "2 are made", "3 are made", "more are made"} {
		if met[each] < 30 {
			t.Errorf("%s: it is met too seldom: %v", each, met)
		}
	}
}

func TestCountedAnswersEverywhere(t *testing.T) {
	headedImages(func(b []int64) {
		checkCounted(t, fmt.Sprint(len(b), " words"), b, wantCounted(b))
	})
}

// countedAtAll are images that are answered by nothing, by as many clusters, and
// by more.
func countedAtAll() [][]int64 {
	images := append(headless(), allKinds(), allKinds()[:117], oneOfEach(), inOrder(), withWord(inOrder(), 4, 0), withWord(someDisk(), 3, 0), someDisk()[:43])
	return append(images, strewn(15, nil), strewn(15, nil)[:113], strewn(64, []int64{4}), strewn(64, nil), withWord(strewn(62, nil), 4, 0), eightBlocks())
}

func TestCountedLeavesItsArgument(t *testing.T) {
	for _, words := range countedAtAll() {
		b := guard(words)
		spoil(impl.Counted(b.list))
		b.check(t, "counting anew")
	}
}

// TestCountedAnswersAnew: an answer that somebody wrote over is not given again.
func TestCountedAnswersAnew(t *testing.T) {
	for _, b := range countedAtAll() {
		if _, is := impl.HeadIn(b); !is {
			continue
		}
		kept := impl.Counted(b)
		spoil(impl.Counted(b))
		if want := wantCounted(b); !same(kept, want) || !same(impl.Counted(b), want) {
			t.Error("two answers share memory")
		}
	}
}
