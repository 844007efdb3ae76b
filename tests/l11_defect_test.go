package tests

import (
	"fmt"
	"slices"
	"testing"

	"loop.example/g00821/impl"
)

func defect(kind, a, b int64) impl.Defect {
	return impl.Defect{Kind: kind, A: a, B: b}
}

// checkDefects holds Sound and Mild against the defects that are wanted, and so
// is promise 11, too. It is given images only.
func checkDefects(t *testing.T, what string, b []int64, want ...impl.Defect) {
	t.Helper()
	if got := impl.DefectsIn(b); !slices.Equal(got, want) {
		t.Errorf("%s: the defects\n%v, want\n%v", what, got, want)
	}
	grave := slices.ContainsFunc(want, func(d impl.Defect) bool { return d.Kind < 6 })
	sound, mild := impl.Sound(b), impl.Mild(b)
	if sound != (len(want) == 0) || mild == grave {
		t.Errorf("%s: Sound %v, Mild %v, the defects %v", what, sound, mild, want)
	}
	if sound && !mild {
		t.Errorf("%s: it is Sound and not Mild", what)
	}
}

// wantDefects tells them by the other telling of the claims, of an image that
// has a head.
func wantDefects(b []int64) []impl.Defect {
	var want []impl.Defect
	if len(b)%8 != 0 {
		want = append(want, defect(2, int64(len(b)), 0))
	}
	loose := make(map[[2]int64]bool)
	var tables [3][]int64 // Refs, first tables, second tables
	for _, c := range wantClaims(b) {
		group := map[int64]int{3: 0, 2: 1, 6: 1, 7: 2}
		if !c.Good {
			want = append(want, defect(3, c.Kind, c.Target))
			loose[[2]int64{c.From, c.Slot}] = true
		} else if at, is := group[c.Kind]; is && !slices.Contains(tables[at], c.Target) {
			tables[at] = append(tables[at], c.Target)
		}
	}
	if head := wantCluster(b, 0); head[6] == 0 && head[5] != 0 {
		want = append(want, defect(4, head[5], 0))
	}
	counts := wantCounts(b)
	for at, stored := range wantStored(b) {
		if stored < counts[at] {
			want = append(want, defect(5, int64(at), stored))
		}
		if stored > counts[at] {
			want = append(want, defect(6, int64(at), stored))
		}
	}
	for at, group := range tables {
		for _, table := range group {
			for slot, word := range wantCluster(b, int(table)) {
				is := [2]int64{table, int64(slot)}
				must := word & 32767
				if must > 0 && at > 0 && !loose[is] && counts[must] == 1 {
					must |= 32768
				}
				if word != must && !loose[is] {
					want = append(want, defect(7, is[0], is[1]))
				}
			}
		}
	}
	return want
}

// inOrder is a Sound image with Good claims of every kind: a disk of 20 clusters
// and two Shots of it. Its tables are not in the order of their numbers, and
// two of its second tables are shared.
func inOrder() []int64 {
	return laid(impl.Head{Size: 20, First: 9, Refs: 10, Shots: 11, Many: 2},
		[]int64{1, 1, 1, 1, 1, 2, 3},            // 1: the block of 8 to 15
		[]int64{6, 32775},                       // 2: the first table of the Shot behind
		[]int64{6, 0, 4},                        // 3: that of the Shot ahead
		[]int64{13},                             // 4: a second table of the disk and a Shot
		[]int64{0, 32780},                       // 5: one of the disk alone
		[]int64{0, 14},                          // 6: one of both Shots
		[]int64{0, 0, 0, 0, 0, 0, 0, 14},        // 7: one of a Shot alone
		[]int64{1, 1, 1, 1, 2, 1, 2, 1},         // 8: the block of 0 to 7
		[]int64{32773, 0, 4},                    // 9: the first table
		[]int64{8, 1},                           // 10: Refs
		[]int64{91, 3, 92, 2, 32768, 9, 0, 9},   // 11: Shots
		[]int64{1, 2, 3, 4, 5, 6, 7, 8},         // 12
		[]int64{32768, 32780, 12, 0, 0, 0, 0},   // 13
		[]int64{65535, 32769, 1, 2, 3, 4, 5, 6}, // 14
	)
}

// tablesInOrder are those of inOrder that are gone into.
func tablesInOrder() []int64 {
	return []int64{10, 9, 3, 2, 5, 4, 6, 7}
}

// fullyStored is a Sound image with a block for each of 64 clusters, of which
// there are 11: the block of the slot s is the cluster 3 and s more.
func fullyStored() []int64 {
	b := laid(impl.Head{Size: 8, First: 1, Refs: 2}, nil, []int64{3, 4, 5, 6, 7, 8, 9, 10})
	return append(append(b, slices.Repeat([]int64{1}, 11)...), make([]int64, 53)...)
}

// storedAt is where the word of a cluster stands in fullyStored.
func storedAt(cluster int) int {
	return 24 + cluster
}

// soundImages are of several sorts, and as they must be.
func soundImages() [][]int64 {
	shared := laid(impl.Head{Size: 16, First: 1, Refs: 2, Shots: 3, Many: 1},
		[]int64{5, 32774}, []int64{7, 8}, []int64{65535, 4}, []int64{5}, []int64{9, 9}, []int64{9, 32778},
		[]int64{1, 1, 1, 1, 1, 2, 1, 1}, []int64{1, 5, 1}, nil, nil)
	images := [][]int64{
		someDisk(),
		inOrder(),
		fullyStored(),
		shared,
		laid(impl.Head{Size: 8, First: 1, Refs: 2}, nil, []int64{3}, []int64{1, 1, 1, 1}),
		laid(impl.Head{Size: 64, First: 3, Refs: 1}, []int64{2}, []int64{1, 1, 1, 1}, nil),
	}
	// Clusters that nobody leads to are no defect, nor are 64 of them.
	for _, many := range []int{1, 2, 50, 58} {
		images = append(images, append(someDisk(), slices.Repeat([]int64{32769}, 8*many)...))
	}
	return images
}

func TestKindsOfDefects(t *testing.T) {
	for i, kind := range []int{impl.DfHead, impl.DfLength, impl.DfLoose, impl.DfShots, impl.DfFew, impl.DfMany, impl.DfOwn} {
		if kind != i+1 {
			t.Errorf("the kind %d is %d", i+1, kind)
		}
	}
}

// TestWhoIsSoundIsMild is promise 11; and of each image promise 9.
func TestWhoIsSoundIsMild(t *testing.T) {
	for i, b := range soundImages() {
		if !impl.Sound(b) || !impl.Mild(b) {
			t.Errorf("the image %d: Sound %v, Mild %v, the defects %v", i, impl.Sound(b), impl.Mild(b), impl.DefectsIn(b))
		}
		checkDefects(t, fmt.Sprint("the image ", i), b)
		if !same(impl.StoredIn(b), impl.CountsIn(b)) {
			t.Errorf("the image %d: what is stored is not what is counted", i)
		}
	}
}

// TestEachKindAlone: of Sound and Mild, too, since these hang on the kind.
func TestEachKindAlone(t *testing.T) {
	for _, c := range []struct {
		what        string
		b           []int64
		sound, mild bool
		want        impl.Defect
	}{
		{"no head", withWord(someDisk(), 0, 20558), false, false, defect(1, 0, 0)},
		{"a word behind", append(someDisk(), 0), false, false, defect(2, 49, 0)},
		{"a loose claim", withWord(someDisk(), 33, 6), false, false, defect(3, 8, 6)},
		{"Shots without Many", withWord(someDisk(), 5, 5), false, false, defect(4, 5, 0)},
		{"less", withWord(inOrder(), 14, 2), false, false, defect(5, 14, 2)},
		{"more", withWord(inOrder(), 14, 4), false, true, defect(6, 14, 4)},
		{"a flag", withWord(someDisk(), 34, 5), false, true, defect(7, 4, 2)},
	} {
		checkDefects(t, c.what, c.b, c.want)
		if impl.Sound(c.b) != c.sound || impl.Mild(c.b) != c.mild {
			t.Errorf("%s: Sound %v, Mild %v", c.what, impl.Sound(c.b), impl.Mild(c.b))
		}
	}
}

func TestSeveralDefectsInOrder(t *testing.T) {
	b := append(inOrder(), 65535)
	b[8*2+1] = 15     // a second table, of the one word behind; 7 is none then
	b[8*9+2] = 32772  // 4 is shared
	b[8*9+1] = 32783  // 15 is of the slot 1 of the Shot behind, too
	b[8*10+1] = 32769 // Refs owns nobody
	b[8*10+2] = 16    // not there
	b[8*3+7] = 4      // past the disk's end
	b[8*5+1] = 12     // its own, and not told so
	b[8*6+4] = 32777  // First
	b[8*8+3], b[8] = 0, 9
	checkDefects(t, "several", b,
		defect(2, 121, 0),
		defect(3, 4, 16), defect(3, 7, 4), defect(3, 8, 32767), defect(3, 8, 9), defect(3, 8, 9), defect(3, 8, 32767),
		defect(5, 3, 0), defect(6, 7, 1), defect(6, 8, 9), defect(6, 14, 3), defect(5, 15, 0),
		defect(7, 10, 1), defect(7, 9, 1), defect(7, 9, 2), defect(7, 5, 1))
	// Without Many there are no Shots: 4, 6 and 7 are the disk's alone, or are
	// nobody's.
	b = withWord(append(inOrder(), 0, 0), 6, 0)
	b[8*9+3], b[8*9+4], b[8*10+7] = 1, 32768, 32768
	checkDefects(t, "Shots without Many, too", b,
		defect(2, 122, 0), defect(3, 7, 1), defect(4, 11, 0),
		defect(6, 2, 1), defect(6, 3, 1), defect(6, 4, 2), defect(6, 6, 2), defect(6, 7, 1), defect(6, 11, 1), defect(6, 13, 2), defect(6, 14, 3),
		defect(7, 10, 7), defect(7, 9, 2), defect(7, 9, 4), defect(7, 4, 0))
}

// TestDefectOfLength: the words are told that there are, though a last cluster
// that lacks some is one.
func TestDefectOfLength(t *testing.T) {
	whole := append(fullyStored(), make([]int64, 424)...)
	for n := 88; n <= 512; n++ {
		var want []impl.Defect
		if n%8 != 0 {
			want = append(want, defect(2, int64(n), 0))
		}
		checkDefects(t, fmt.Sprint(n, " words"), whole[:n], want...)
	}
	// Of a cluster that lacks words the zeros count, and not what stands in the
	// spare room behind.
	b := someDisk()
	for n := 41; n < 48; n++ {
		checkDefects(t, fmt.Sprint(n, " words"), b[:n], defect(2, int64(n), 0))
	}
	checkDefects(t, "40 words", b[:40], defect(3, 8, 5), defect(6, 5, 1))
	b = laid(impl.Head{Size: 8, First: 3, Refs: 1}, []int64{2}, []int64{1, 1, 1, 1}, []int64{0, 0, 32768, 5, 1})
	checkDefects(t, "26 words", b[:26], defect(2, 26, 0))
	checkDefects(t, "27 words", b[:27], defect(2, 27, 0), defect(7, 3, 2))
	// A head alone, that leads nowhere.
	for n := 3; n <= 8; n++ {
		want := []impl.Defect{defect(2, int64(n), 0), defect(3, 2, 0), defect(3, 3, 0), defect(5, 0, 0)}
		checkDefects(t, fmt.Sprint("a head of ", n, " words"), laid(impl.Head{Size: 64})[:n], want[n/8:]...)
	}
}

// TestDefectsOfLooseClaims: one of each claim that is not Good, in the order of
// these, with its kind and its target.
func TestDefectsOfLooseClaims(t *testing.T) {
	for _, w := range whoTells() {
		for _, target := range []int64{9, 63, 64, 32767} {
			b := withCounts(withWord(oneOfEach(), w.at, target))
			checkDefects(t, fmt.Sprintf("the kind %d of %d", w.kind, target), b, wantDefects(b)...)
			checkTold(t, b, defect(3, w.kind, target))
		}
	}
	b := laid(impl.Head{Size: 9, First: 1, Refs: 2, Shots: 3, Many: 4},
		[]int64{5, 6, 32773, 40}, []int64{1, 4, 2, 41}, []int64{91, 7, 92, 2, 93, 0, 94, 65535}, nil,
		[]int64{5, 8, 32810}, []int64{8, 8, 3}, nil, nil)
	checkDefects(t, "all kinds that stand in tables", withCounts(b),
		defect(3, 4, 1), defect(3, 4, 2), defect(3, 4, 41),
		defect(3, 6, 2), defect(3, 6, 0), defect(3, 6, 65535),
		defect(3, 7, 5), defect(3, 7, 40),
		defect(3, 8, 5), defect(3, 8, 42), defect(3, 8, 8), defect(3, 8, 3),
		defect(5, 0, 0), defect(5, 1, 0), defect(5, 2, 0), defect(5, 3, 0), defect(5, 4, 0), defect(5, 5, 0), defect(5, 6, 0), defect(5, 7, 0),
		defect(7, 1, 0), defect(7, 1, 1))
	checkDefects(t, "First, Refs and Shots", laid(impl.Head{Size: 9, First: 7, Refs: 32769, Shots: 65535, Many: 1}, nil),
		defect(3, 2, 7), defect(3, 3, 32769), defect(3, 5, 65535), defect(5, 0, 0))
	// A First of 0 and a Refs of 0 lead nowhere, either.
	checkDefects(t, "none of them", laid(impl.Head{Size: 9, Many: 4}, nil), defect(3, 2, 0), defect(3, 3, 0), defect(3, 5, 0), defect(5, 0, 0))
	// A claim of a shared table is told as often as there is one.
	checkDefects(t, "two claims of one word", withWord(inOrder(), 8*4+1, 15), defect(3, 8, 15), defect(3, 8, 15))
}

// checkTold is that a defect is told once at least.
func checkTold(t *testing.T, b []int64, want impl.Defect) {
	t.Helper()
	if got := impl.DefectsIn(b); !slices.Contains(got, want) {
		t.Errorf("%v is not among the defects %v", want, got)
	}
}

func TestDefectOfShots(t *testing.T) {
	for _, shots := range []int64{1, 2, 3, 4, 5, 6, 63, 64, 32767, 32768, 65535} {
		checkDefects(t, fmt.Sprint("Shots is ", shots), withWord(someDisk(), 5, shots), defect(4, shots, 0))
	}
	checkDefects(t, "Shots is 0", withWord(someDisk(), 5, 0))
	for many := int64(1); many <= 4; many++ {
		b := withWord(inOrder(), 6, many)
		if got := impl.DefectsIn(b); slices.ContainsFunc(got, func(d impl.Defect) bool { return d.Kind == 4 }) {
			t.Errorf("Many is %d: the defects %v", many, got)
		}
		// Shots of 0 are loose where there are some.
		checkDefects(t, fmt.Sprint(many, " lost Shots"), withWord(withWord(someDisk(), 6, many), 5, 0), defect(3, 5, 0))
	}
}

// TestDefectsOfCounts is of each of the 64 clusters, be it there or not.
func TestDefectsOfCounts(t *testing.T) {
	for at := range 64 {
		count := int64(1)
		if at > 10 {
			count = 0
		}
		for _, w := range []int64{0, 1, 2, 3, 319, 32767, 32768, 32769, 65535} {
			what := fmt.Sprintf("%d is stored of %d", w, at)
			b := withWord(fullyStored(), storedAt(at), w)
			switch {
			case w < count:
				checkDefects(t, what, b, defect(5, int64(at), w))
			case w > count:
				checkDefects(t, what, b, defect(6, int64(at), w))
			default:
				checkDefects(t, what, b)
			}
		}
	}
	// More and less, each by one, in the order of the clusters.
	b := fullyStored()
	var want []impl.Defect
	for at := range int64(64) {
		more := at > 10 || at%3 == 0
		b[storedAt(int(at))] = 0
		want = append(want, defect(5, at, 0))
		if more {
			b[storedAt(int(at))] = 2
			want[at] = defect(6, at, 2)
		}
	}
	checkDefects(t, "all of them", b, want...)
	// Counts above 1: what is below is less, though it is not 0.
	for w := range int64(6) {
		b = withWord(inOrder(), 14, w)
		switch {
		case w < 3:
			checkDefects(t, fmt.Sprint(w, " of 3"), b, defect(5, 14, w))
		case w > 3:
			checkDefects(t, fmt.Sprint(w, " of 3"), b, defect(6, 14, w))
		}
	}
}

// TestDefectsOfCountsWithoutABlock: nothing is stored, and that is less where
// there is a count.
func TestDefectsOfCountsWithoutABlock(t *testing.T) {
	few := func(clusters ...int64) []impl.Defect {
		var want []impl.Defect
		for _, at := range clusters {
			want = append(want, defect(5, at, 0))
		}
		return want
	}
	b := withWord(inOrder(), 81, 0)
	checkDefects(t, "no block of 8 to 15", b, append([]impl.Defect{defect(6, 1, 1)}, few(8, 9, 10, 11, 12, 13, 14)...)...)
	b = withWord(inOrder(), 80, 0)
	checkDefects(t, "no block of 0 to 7", b, append(few(0, 1, 2, 3, 4, 5, 6, 7), defect(6, 8, 1))...)
	b = withWord(someDisk(), 4, 0)
	checkDefects(t, "no Refs", b, append([]impl.Defect{defect(3, 3, 0)}, few(0, 1, 4, 5)...)...)
	b = withWord(someDisk(), 4, 6)
	checkDefects(t, "Refs is not there", b, append([]impl.Defect{defect(3, 3, 6)}, few(0, 1, 4, 5)...)...)
	b = withWord(someDisk(), 16, 6)
	checkDefects(t, "a block is not there", b, append([]impl.Defect{defect(3, 4, 6)}, few(0, 1, 2, 4, 5)...)...)
	// One of its slots leads nowhere, and nobody misses what would be stored.
	b = withWord(fullyStored(), 16+7, 0)
	checkDefects(t, "no block of clusters that are not there", b, defect(6, 10, 1))
}

// spoiltWord is not as it must be, though it leads where it did.
func spoiltWord(w int64) int64 {
	return w ^ 32768
}

// TestEachSlotOfEachTable: where a word is own that must not be, or is not that
// must be, it is told, and that alone.
func TestEachSlotOfEachTable(t *testing.T) {
	all := inOrder()
	var want []impl.Defect
	for _, table := range tablesInOrder() {
		for slot := range int64(8) {
			at := int(8*table + slot)
			b := withWord(inOrder(), at, spoiltWord(all[at]))
			checkDefects(t, fmt.Sprintf("the table %d, the slot %d", table, slot), b, defect(7, table, slot))
			all[at] = spoiltWord(all[at])
			want = append(want, defect(7, table, slot))
		}
	}
	// The tables come in their order, a shared one but once.
	checkDefects(t, "all of them", all, want...)
	if len(want) != 64 || !impl.Mild(all) {
		t.Errorf("%d words, Mild %v", len(want), impl.Mild(all))
	}
	// No other cluster is looked at for flags.
	b := inOrder()
	for _, at := range []int{12, 13, 14} {
		copy(b[8*at:], []int64{32768, 1, 32769, 65535, 32780, 0, 15, 32783})
	}
	b[8*11], b[8*11+2], b[8*11+4], b[8*11+5] = 32768, 32769, 65535, 32770
	checkDefects(t, "names, what is behind the Shots, and contents", b)
}

// TestOrderOfTables: Refs is ahead of First, whatever their numbers are, and
// first tables are ahead of all second ones.
func TestOrderOfTables(t *testing.T) {
	for _, at := range [][6]int64{{1, 2, 3, 4, 5, 6}, {2, 1, 4, 3, 6, 5}, {6, 5, 4, 3, 2, 1}, {5, 6, 3, 4, 1, 2}, {3, 4, 5, 6, 1, 2}} {
		first, refs, shots, shot, second, other := at[0], at[1], at[2], at[3], at[4], at[5]
		b := laid(impl.Head{Size: 64, First: first, Refs: refs, Shots: shots, Many: 1}, make([][]int64, 7)...)
		copy(b[8*refs:], []int64{7})
		copy(b[8*shots:], []int64{91, shot})
		copy(b[8*first:], []int64{0, 0, second + 32768})
		copy(b[8*shot:], []int64{other + 32768})
		copy(b[56:], slices.Repeat([]int64{1}, 8))
		checkDefects(t, fmt.Sprint(at), b)
		for i, table := range []int64{first, refs, shot, second, other} {
			b[8*table+int64(3+i)] = 32768
		}
		checkDefects(t, fmt.Sprint(at), b, defect(7, refs, 4), defect(7, first, 3), defect(7, shot, 5), defect(7, second, 6), defect(7, other, 7))
	}
}

// TestSharedTablesAreLookedAtOnce: by the first of their claims, be there as
// many as there may.
func TestSharedTablesAreLookedAtOnce(t *testing.T) {
	for many := range int64(5) {
		b := laid(impl.Head{Size: 64, First: 1, Refs: 2, Shots: 3, Many: many},
			[]int64{8, 9}, []int64{10, 11}, []int64{91, 4, 92, 5, 93, 6, 94, 7},
			[]int64{8, 9}, []int64{8, 9}, []int64{8, 9}, []int64{8, 9},
			[]int64{0, 0, 32768}, []int64{32768}, nil, nil)
		if many == 0 {
			b[5] = 0
			b[8], b[9] = 32776, 32777
		}
		checkDefects(t, fmt.Sprint(many, " Shots"), withCounts(b), defect(7, 8, 2), defect(7, 9, 0))
	}
	// The Shot alone has 5 and 6; the disk's one comes ahead, though its slot is
	// behind.
	b := withCounts(laid(impl.Head{Size: 64, First: 1, Refs: 2, Shots: 3, Many: 1},
		[]int64{0, 0, 7}, []int64{8, 9}, []int64{91, 4}, []int64{32773, 32774, 7},
		[]int64{32768}, []int64{32768}, []int64{32768}, nil, nil))
	checkDefects(t, "one of both and two of the Shot", b, defect(7, 7, 0), defect(7, 5, 0), defect(7, 6, 0))
}

// TestWordsOfNoTarget: they must be 0, be their place on the disk or not.
func TestWordsOfNoTarget(t *testing.T) {
	for size := int64(1); size <= 64; size++ {
		b := laid(impl.Head{Size: size, First: 1, Refs: 2}, []int64{32772}, []int64{3}, []int64{1, 1, 1, 1, 1}, nil)
		checkDefects(t, fmt.Sprint("the size ", size), b)
		var want []impl.Defect
		for _, table := range []int64{2, 1, 4} {
			for slot := range int64(8) {
				if at := 8*table + slot; b[at] == 0 {
					b[at] = 32768
					want = append(want, defect(7, table, slot))
				}
			}
		}
		checkDefects(t, fmt.Sprint("the size ", size), b, want...)
	}
}

// TestWordsOfLooseClaims: they are as they must be, own or not, though what
// they lead to has a count, or is no cluster that could have one.
func TestWordsOfLooseClaims(t *testing.T) {
	for _, own := range []int64{0, 32768} {
		for _, target := range []int64{1, 2, 3, 6, 63, 64, 32767} {
			what := fmt.Sprint(target + own)
			checkDefects(t, "in Refs "+what, withWord(someDisk(), 17, target+own), defect(3, 4, target))
			checkDefects(t, "in First "+what, withWord(someDisk(), 9, target+own), defect(3, 7, target))
			checkDefects(t, "in a second table "+what, withWord(someDisk(), 32, target+own), defect(3, 8, target))
			checkDefects(t, "in a Shot's table "+what, withWord(inOrder(), 8*2+2, target+own), defect(3, 7, target))
		}
		// Past the disk's end.
		checkDefects(t, "a second table past the end", withWord(someDisk(), 11, 5+own), defect(3, 7, 5))
		b := withWord(withWord(someDisk(), 2, 2), 34, 5+own)
		checkDefects(t, "a cluster past the end", b, defect(3, 8, 5), defect(6, 5, 1))
		// Two slots of one first table.
		checkDefects(t, "a second table twice", withWord(someDisk(), 9, 4+own), defect(3, 7, 4))
	}
}

// TestWordsByCounts: own just where there is no other who leads there, and
// never in Refs.
func TestWordsByCounts(t *testing.T) {
	b := withCounts(laid(impl.Head{Size: 20, First: 1, Refs: 2, Shots: 4, Many: 1},
		[]int64{6, 7 + 32768, 8 + 32768}, []int64{3, 12}, nil, []int64{91, 5}, []int64{6},
		[]int64{9}, []int64{10 + 32768, 11}, []int64{11}, nil, nil, nil, nil))
	checkDefects(t, "as they must be", b)
	for _, c := range []struct{ table, slot, word int64 }{
		{2, 0, 3 + 32768},  // a block has one count, but Refs owns nobody
		{2, 1, 12 + 32768}, //
		{1, 0, 6 + 32768},  // two first tables lead there
		{1, 1, 7},          // one does
		{1, 2, 8},          //
		{5, 0, 6 + 32768},  // the other one of the two
		{6, 0, 9 + 32768},  // by one word of a table that is shared
		{7, 0, 10},         // by one word
		{7, 1, 11 + 32768}, // by words of two tables
		{8, 0, 11 + 32768}, //
	} {
		checkDefects(t, fmt.Sprint(c), withWord(b, int(8*c.table+c.slot), c.word), defect(7, c.table, c.slot))
	}
	// Two words of one table lead there.
	b = withWord(withWord(someDisk(), 35, 5), 29, 2)
	checkDefects(t, "two words, one of them own", b, defect(7, 4, 2))
	checkDefects(t, "two words, both of them own", withWord(b, 35, 32773), defect(7, 4, 2), defect(7, 4, 3))
	checkDefects(t, "two words, none of them own", withWord(b, 34, 5))
	// It is the count that tells, and not what is stored.
	checkDefects(t, "one word and two are stored", withWord(someDisk(), 29, 2), defect(6, 5, 2))
	checkDefects(t, "two words and one is stored", withWord(withWord(b, 29, 1), 34, 5), defect(5, 5, 1))
	// A loose claim does not make a count.
	b = withWord(withWord(someDisk(), 2, 3), 35, 5)
	checkDefects(t, "two words, one past the disk's end", b, defect(3, 8, 5))
}

// TestFlagsInTablesThatAreNotGoneInto: what stands there is nobody's word.
func TestFlagsInTablesThatAreNotGoneInto(t *testing.T) {
	wild := []int64{32768, 32769, 5, 65535, 32773, 32768, 1, 64}
	b := laid(impl.Head{Size: 20, First: 1, Refs: 2}, nil, []int64{3}, []int64{1, 1, 1, 1}, wild, wild)
	checkDefects(t, "nobody's clusters", b)
	checkDefects(t, "Shots without Many", withWord(b, 5, 4), defect(4, 4, 0))
	b = laid(impl.Head{Size: 8, First: 1, Refs: 2}, []int64{0, 4}, []int64{3}, []int64{1, 1, 1, 1}, wild)
	checkDefects(t, "a second table past the end", b, defect(3, 7, 4))
	b = laid(impl.Head{Size: 8, First: 1, Refs: 2, Shots: 4, Many: 2}, nil, []int64{3}, []int64{1, 1, 1, 1, 1, 1}, []int64{91, 5, 92, 3}, nil)
	checkDefects(t, "a Shot of a block", b, defect(3, 6, 3))
	// Where First is Refs, too, that table is a first one, and owns whom it leads
	// to alone.
	b = laid(impl.Head{Size: 8, First: 1, Refs: 1}, []int64{2}, nil)
	few := []impl.Defect{defect(3, 3, 1), defect(5, 0, 0), defect(5, 1, 0), defect(5, 2, 0)}
	checkDefects(t, "First is Refs, not own", b, append(slices.Clone(few), defect(7, 1, 0))...)
	checkDefects(t, "First is Refs, own", withWord(b, 8, 32770), few...)
}

// TestMildByManyAndOwnAlone: as many of them as there may be; one other makes
// it no longer Mild.
func TestMildByManyAndOwnAlone(t *testing.T) {
	b := inOrder()
	for slot := range 8 {
		b[64+slot]++
		b[8+slot] += 9
	}
	for _, at := range []int{72, 73, 80, 41} {
		b[at] = spoiltWord(b[at])
	}
	if d := impl.DefectsIn(b); len(d) != 20 || impl.Sound(b) || !impl.Mild(b) {
		t.Errorf("Sound %v, Mild %v, %d defects: %v", impl.Sound(b), impl.Mild(b), len(d), d)
	}
	for what, grave := range map[string][]int64{
		"a head that is none": withWord(b, 7, 1),
		"a word behind":       append(slices.Clone(b), 0),
		"a loose claim":       withWord(b, 8*9+7, 15),
		"a count too low":     withWord(b, 64, 0),
		"a Refs that is none": withWord(b, 4, 0),
	} {
		if impl.Sound(grave) || impl.Mild(grave) || len(impl.DefectsIn(grave)) == 0 {
			t.Errorf("%s: Sound %v, Mild %v", what, impl.Sound(grave), impl.Mild(grave))
		}
	}
	checkDefects(t, "by DfMany alone", withWord(withWord(someDisk(), 24, 2), 31, 65535), defect(6, 0, 2), defect(6, 7, 65535))
	checkDefects(t, "by DfOwn alone", withWord(withWord(someDisk(), 8, 4), 16, 32771), defect(7, 2, 0), defect(7, 1, 0))
	b = withWord(withWord(withWord(someDisk(), 24, 2), 8, 4), 5, 9)
	checkDefects(t, "and Shots without Many", b, defect(4, 9, 0), defect(6, 0, 2), defect(7, 1, 0))
}

// isImage tells the two sorts of lists without a head apart.
func isImage(b []int64) bool {
	return len(b) <= 512 && !slices.ContainsFunc(b, func(w int64) bool { return w < 0 || w > 65535 })
}

// TestDefectsWithoutAHead: an image has one defect then, and what is no image
// has none, but is not Sound for that.
func TestDefectsWithoutAHead(t *testing.T) {
	lists := nearlyAllKinds()
	for _, w := range [][2]int64{{0, 0}, {1, 4}, {2, 0}, {2, 65}, {6, 5}, {7, 1}, {3, -1}, {40, -1}, {47, 65536}} {
		lists = append(lists, withWord(someDisk(), int(w[0]), w[1]))
	}
	lists = append(lists, append(someDisk(), make([]int64, 465)...), append(someDisk(), -1), make([]int64, 512), make([]int64, 513))
	met := make(map[bool]int)
	for i, b := range lists {
		wantNoHead(t, "headless", b)
		what := fmt.Sprint("the list ", i)
		met[isImage(b)]++
		if isImage(b) {
			checkDefects(t, what, b, defect(1, 0, 0))
		} else if d := impl.DefectsIn(b); len(d) != 0 {
			t.Errorf("%s: the defects %v", what, d)
		}
		if impl.Sound(b) || impl.Mild(b) {
			t.Errorf("%s: Sound %v, Mild %v", what, impl.Sound(b), impl.Mild(b))
		}
	}
	if met[true] < 10 || met[false] < 10 {
		t.Errorf("some are met too seldom: %v", met)
	}
	checkDefects(t, "no word", nil, defect(1, 0, 0))
	checkDefects(t, "no word", []int64{}, defect(1, 0, 0))
	checkDefects(t, "seven words", make([]int64, 7), defect(1, 0, 0))
	checkDefects(t, "512 words", append(someDisk(), make([]int64, 464)...))
}

// TestDefectsOfOneWord is of Sound images in which one word is another one.
func TestDefectsOfOneWord(t *testing.T) {
	met := make(map[[2]bool]int)
	for i, sound := range soundImages()[:6] {
		for at := 2; at < len(sound); at++ {
			for _, w := range []int64{0, 1, 2, 3, 4, 5, 7, 9, int64(len(sound) / 8), 32768, 32769, 32771, 32772, 65535, spoiltWord(sound[at])} {
				b := withWord(sound, at, w)
				if _, is := impl.HeadIn(b); is {
					checkDefects(t, fmt.Sprintf("the image %d, %d at %d", i, w, at), b, wantDefects(b)...)
				} else {
					checkDefects(t, fmt.Sprintf("the image %d, %d at %d", i, w, at), b, defect(1, 0, 0))
				}
				met[[2]bool{impl.Sound(b), impl.Mild(b)}]++
			}
		}
	}
	if met[[2]bool{true, false}] != 0 || len(met) != 3 || min(met[[2]bool{}], met[[2]bool{false, true}], met[[2]bool{true, true}]) < 500 {
		t.Errorf("Sound and Mild are met: %v", met)
	}
}

// TestDefectsOfBrokenImages: whatever is broken, it is told as the other telling
// has it.
func TestDefectsOfBrokenImages(t *testing.T) {
	var met [8]int
	brokenImages(3000, func(b []int64) {
		for _, image := range [][]int64{b, withCounts(b)} {
			want := wantDefects(image)
			if got := impl.DefectsIn(image); !slices.Equal(got, want) {
				t.Fatalf("%v: the defects\n%v, want\n%v", image, got, want)
			}
			for _, d := range want {
				met[d.Kind]++
			}
			if impl.Sound(image) && !same(impl.StoredIn(image), impl.CountsIn(image)) {
				t.Fatalf("%v: it is Sound, and what is stored is not what is counted", image)
			}
			if impl.Sound(image) && !impl.Mild(image) {
				t.Fatalf("%v: it is Sound and not Mild", image)
			}
		}
	})
	if slices.Min(met[2:]) < 500 {
		t.Errorf("some are met too seldom: %v", met)
	}
}

func TestDefectsAnswerEverywhere(t *testing.T) {
	headedImages(func(b []int64) {
		checkDefects(t, fmt.Sprint(len(b), " words"), b, wantDefects(b)...)
	})
}

func spoilDefects(answer []impl.Defect) {
	answer = answer[:cap(answer)]
	for i := range answer {
		answer[i] = defect(-99, -99, -99)
	}
}

func TestDefectsLeaveTheirArgument(t *testing.T) {
	for _, words := range append(headless(), allKinds(), allKinds()[:117], oneOfEach(), inOrder(), inOrder()[:83], fullyStored()) {
		b := guard(words)
		spoilDefects(impl.DefectsIn(b.list))
		impl.Sound(b.list)
		impl.Mild(b.list)
		b.check(t, "defects")
	}
}

// TestDefectsAnswerAnew: an answer that somebody wrote over is not given again.
func TestDefectsAnswerAnew(t *testing.T) {
	for _, b := range [][]int64{allKinds(), withWord(allKinds(), 0, 0), inOrder()} {
		kept := impl.DefectsIn(b)
		was := slices.Clone(kept)
		spoilDefects(impl.DefectsIn(b))
		if !slices.Equal(kept, was) || !slices.Equal(impl.DefectsIn(b), was) {
			t.Error("two answers share memory")
		}
	}
}
