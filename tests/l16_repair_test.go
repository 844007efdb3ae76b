package tests

import (
	"fmt"
	"slices"
	"testing"

	"loop.example/g00821/impl"
)

func wantBlank(size int64) []int64 {
	return []int64{
		20559, 3, size, 1, 2, 0, 0, 0,
		0, 0, 0, 0, 0, 0, 0, 0,
		3, 0, 0, 0, 0, 0, 0, 0,
		1, 1, 1, 1, 0, 0, 0, 0,
	}
}

// wantRepaired tells it by the other tellings of the steps, of an image that has
// a head.
func wantRepaired(b []int64) []int64 {
	blank := wantBlank(b[2])
	want := wantCleared(b)
	if want[3] == 0 {
		if want = wantRefound(want); want == nil {
			return blank
		}
		want = wantCleared(want)
	}
	if want = wantCounted(want); want == nil {
		return blank
	}
	return wantOwned(want)
}

// checkRepaired holds the answer against the one that is wanted, and is promise
// 16. It is given images that have a head.
func checkRepaired(t *testing.T, what string, b, want []int64) {
	t.Helper()
	got, is := impl.Repaired(b)
	if !is || !same(got, want) {
		t.Errorf("%s: what is repaired is\n%v, %v, want\n%v", what, got, is, want)
	}
	checkIsPutRight(t, what, b, got)
}

// checkIsPutRight is promise 16; and that the Size stays, and that who is
// repaired again does.
func checkIsPutRight(t *testing.T, what string, b, repaired []int64) {
	t.Helper()
	if !impl.Sound(repaired) {
		t.Fatalf("%s: the defects of what is repaired are %v", what, impl.DefectsIn(repaired))
	}
	if again, is := impl.Repaired(repaired); !is || !same(again, repaired) {
		t.Fatalf("%s: repaired again it is\n%v, and was\n%v", what, again, repaired)
	}
	was, _ := impl.HeadIn(b)
	if head, is := impl.HeadIn(repaired); !is || head.Size != was.Size {
		t.Fatalf("%s: the head of what is repaired is %v, and was %v", what, head, was)
	}
	if impl.Sound(b) && !same(repaired, b) {
		t.Fatalf("%s: it was Sound, and is repaired to\n%v", what, repaired)
	}
	checkNothingElseIsRead(t, what, b, repaired, impl.Mild(b))
}

// checkNothingElseIsRead: of the Shots those are there that have a Good claim,
// each with its name, or none at all where it is Blank; and what is read of
// each, and of the disk, if its First was good, is what was, or zeros. The whole
// of it is, where all must be there.
func checkNothingElseIsRead(t *testing.T, what string, b, repaired []int64, all bool) {
	t.Helper()
	from, names := []int64{0}, []int64(nil)
	firstIsGood := false
	for _, c := range wantClaims(b) {
		switch {
		case c.Kind == 6 && c.Good:
			from, names = append(from, c.Slot+1), append(names, wantNames(b)[c.Slot])
		case c.Kind == 2:
			firstIsGood = c.Good
		}
	}
	if same(repaired, wantBlank(b[2])) && !all {
		from, names = []int64{0}, nil
	}
	checkNames(t, what, repaired, names...)
	for which, old := range from {
		for g := range b[2] {
			if which == 0 && !firstIsGood {
				continue
			}
			got, want := wantContent(repaired, int64(which), g), wantContent(b, old, g)
			if !same(got, want) && (all || !same(got, make([]int64, 8))) {
				t.Fatalf("%s: the cluster %d of %d is %v, and was %v", what, g, which, got, want)
			}
		}
	}
}

// checkBlank is of an image that can't be repaired otherwise for want of room.
func checkBlank(t *testing.T, what string, b []int64) {
	t.Helper()
	checkRepaired(t, what, b, wantBlank(b[2]))
}

// fills is the image with clusters behind it that nobody leads to and that are
// no tables, up to that many.
func fills(b []int64, many int) []int64 {
	return append(slices.Clone(b), slices.Repeat([]int64{65535}, 8*many-len(b))...)
}

func TestBlankOfEverySize(t *testing.T) {
	for size := int64(1); size <= 64; size++ {
		what := fmt.Sprint("the size ", size)
		b := impl.Blank(size)
		if !same(b, wantBlank(size)) {
			t.Errorf("%s: Blank is %v", what, b)
		}
		if h, is := impl.HeadIn(b); !is || h != (impl.Head{Size: size, First: 1, Refs: 2}) || !impl.Sound(b) {
			t.Errorf("%s: the head of Blank is %v, %v, its defects %v", what, h, is, impl.DefectsIn(b))
		}
		for g := range size {
			checkZeros(t, what, b, 0, g)
		}
		checkContent(t, what, b, 0, size)
		checkContent(t, what, b, 1, 0)
		checkNames(t, what, b)
		checkRepaired(t, what, b, wantBlank(size))
	}
}

func TestBlankOfNoSize(t *testing.T) {
	for _, size := range append(oddNumbers(), 66, 128, 20559, 1<<32+1) {
		if is := size >= 1 && size <= 64; is != (len(impl.Blank(size)) == 32) || !is && len(impl.Blank(size)) != 0 {
			t.Errorf("Blank of %d is %v", size, impl.Blank(size))
		}
	}
}

func TestRepairedOfNoImage(t *testing.T) {
	lists := [][]int64{{-1}, {65536}, make([]int64, 513), append(someDisk(), -1), append(someDisk(), make([]int64, 465)...)}
	for _, at := range []int{0, 2, 3, 7, 8, 34, 47} {
		lists = append(lists, withWord(someDisk(), at, -1), withWord(someDisk(), at, 65536))
	}
	for _, b := range append(lists, oddImages()...) {
		if isImage(b) {
			continue
		}
		if got, is := impl.Repaired(b); is || len(got) != 0 {
			t.Errorf("%d words: what is repaired is %v, %v, want nothing", len(b), got, is)
		}
	}
}

// TestRepairedWithoutAHead: whatever stands there, and whatever Size it may have
// had.
func TestRepairedWithoutAHead(t *testing.T) {
	lists := append(nearlyAllKinds(), oddImages()...)
	lists = append(lists, nil, []int64{}, []int64{1, 2, 3}, make([]int64, 512), someDisk()[:2], someDisk()[8:])
	for _, w := range [][2]int64{{0, 0}, {0, 20558}, {1, 2}, {1, 4}, {2, 0}, {2, 65}, {6, 5}, {7, 1}, {7, 65535}} {
		lists = append(lists, withWord(someDisk(), int(w[0]), w[1]))
	}
	met := 0
	for i, b := range lists {
		wantNoHead(t, "headless", b)
		if !isImage(b) {
			continue
		}
		met++
		if got, is := impl.Repaired(b); !is || !same(got, wantBlank(8)) {
			t.Errorf("the list %d: what is repaired is %v, %v, want Blank 8", i, got, is)
		}
	}
	if met < 40 {
		t.Errorf("just %d images without a head", met)
	}
}

func TestRepairedOfWhatIsSound(t *testing.T) {
	images := append(soundImages(), fills(inOrder(), 64), fills(someDisk(), 63), append(someDisk(), wildWords()...))
	for i, b := range images {
		if !impl.Sound(b) {
			t.Fatalf("the image %d: the defects %v", i, impl.DefectsIn(b))
		}
		checkRepaired(t, fmt.Sprint("the image ", i), b, b)
	}
}

// TestWrongCountsAloneAreRepaired: too high ones, which are Mild, and too low
// ones, which are not.
func TestWrongCountsAloneAreRepaired(t *testing.T) {
	for i, sound := range soundImages()[:6] {
		all := slices.Clone(sound)
		for _, c := range wantClaims(sound) {
			if c.Kind != 4 {
				continue
			}
			for at := int(8 * c.Target); at < int(8*c.Target+8); at++ {
				for _, w := range []int64{0, sound[at] + 1, 32769} {
					what := fmt.Sprintf("the sound image %d, %d at %d", i, w, at)
					b := withWord(sound, at, w)
					if mild := impl.Mild(b); mild != (w >= sound[at]) {
						t.Fatalf("%s: Mild %v", what, mild)
					}
					checkRepaired(t, what, b, sound)
				}
				all[at] = 9 - all[at]
			}
		}
		checkRepaired(t, fmt.Sprintf("the sound image %d, all are wrong", i), all, sound)
	}
}

func TestWrongFlagsAloneAreRepaired(t *testing.T) {
	all := inOrder()
	for _, table := range tablesInOrder() {
		for at := int(8 * table); at < int(8*table+8); at++ {
			b := withWord(inOrder(), at, spoiltWord(inOrder()[at]))
			if !impl.Mild(b) {
				t.Fatalf("the word %d: the defects %v", at, impl.DefectsIn(b))
			}
			checkRepaired(t, fmt.Sprint("the word ", at), b, inOrder())
			all[at] = spoiltWord(all[at])
		}
	}
	checkRepaired(t, "all of them", all, inOrder())
	checkRepaired(t, "a disk", wrongFlags(), someDisk())
	for i, sound := range soundImages() {
		checkRepaired(t, fmt.Sprint("the sound image ", i, ", all are own"), allOwn(sound), sound)
	}
}

// TestWhatWasMildKeepsAll is asked of the program itself, as to what is read.
func TestWhatWasMildKeepsAll(t *testing.T) {
	b := inOrder()
	for slot := range 8 {
		b[64+slot]++
		b[8+slot] += 9
	}
	for _, at := range []int{72, 73, 80, 41, 8*4 + 7, 8*6 + 1} {
		b[at] = spoiltWord(b[at])
	}
	if !impl.Mild(b) || impl.Sound(b) {
		t.Fatalf("the defects %v", impl.DefectsIn(b))
	}
	checkRepaired(t, "counts and flags", b, inOrder())
	repaired, _ := impl.Repaired(b)
	checkNames(t, "repaired", repaired, 91, 92)
	for which := range int64(3) {
		for g := range int64(20) {
			checkContent(t, "repaired", repaired, which, g, impl.ContentOf(b, which, g)...)
		}
	}
}

// firstsLost are numbers that are not those of any cluster of the images below,
// that of the one that is made among them.
func firstsLost(b []int64) []int64 {
	many := int64(len(b) / 8)
	return []int64{0, many, many + 1, 63, 64, 20559, 32767, 32768, 32769, 65535}
}

// TestFirstThatIsLost: with tables that nobody leads to, the first of which was
// the first table itself.
func TestFirstThatIsLost(t *testing.T) {
	// 4 is a second table now, and what 1 led to is nothing.
	want := append(withWords(someDisk(), [2]int64{3, 6}, [2]int64{8, 0}, [2]int64{30, 1}), 32769, 32772, 0, 0, 0, 0, 0, 0)
	for _, first := range firstsLost(someDisk()) {
		b := withWord(someDisk(), 3, first)
		checkRepaired(t, fmt.Sprint("First is ", first), b, want)
	}
	repaired, _ := impl.Repaired(withWord(someDisk(), 3, 0))
	for g := range int64(20) {
		if g == 10 {
			checkContent(t, "by the slot 1", repaired, 0, g, 7, 7, 7, 7, 7, 7, 7, 9)
		} else {
			checkZeros(t, "by other slots", repaired, 0, g)
		}
	}
	// The first table was written over, and what it led to is where it was.
	want = append(withWords(someDisk(), [2]int64{3, 6}, [2]int64{8, 0}, [2]int64{25, 0}, [2]int64{30, 1}), 32772, 0, 0, 0, 0, 0, 0, 0)
	for _, first := range firstsLost(someDisk()) {
		b := withWords(someDisk(), [2]int64{3, first}, [2]int64{8, 0})
		checkRepaired(t, fmt.Sprint("First is ", first, ", and written over"), b, want)
		checkNothingElseIsRead(t, "written over", someDisk(), want, true)
	}
}

// TestWhatIsFoundAgainIsCleared: it may lead to what has a role, to what was
// found, too, or past the disk's end, be that own or not.
func TestWhatIsFoundAgainIsCleared(t *testing.T) {
	b := laid(impl.Head{Size: 11, First: 0, Refs: 1, Shots: 3, Many: 1},
		[]int64{2}, nil, []int64{91, 4}, []int64{32775, 0, 9},
		[]int64{32769, 32770, 32771, 32772, 32773, 32774, 32775, 32776}, // 5: found
		[]int64{8, 32776, 8, 32776, 5, 1},                               // 6: found, and past the end
		[]int64{8, 32777},                                               // 7: the Shot's
		[]int64{1, 2, 3, 4, 5, 6, 7, 8},                                 // 8
		[]int64{32776},                                                  // 9: past the end, and lost
	)
	want := laid(impl.Head{Size: 11, First: 10, Refs: 1, Shots: 3, Many: 1},
		[]int64{2, 11}, []int64{1, 1, 1, 1, 1, 1, 1, 1}, []int64{91, 4}, []int64{32775, 0, 0},
		[]int64{0, 0, 0, 0, 0, 0, 0, 8},
		[]int64{8, 8, 8},
		[]int64{8, 32777},
		[]int64{1, 2, 3, 4, 5, 6, 7, 8},
		[]int64{32776},
		[]int64{32773, 32774},
		[]int64{5, 1, 1, 1},
	)
	checkRepaired(t, "two that are found", b, want)
	// More than there are slots for: the last one stays nobody's.
	b = withWords(withTables(8, 3), [2]int64{3, 0})
	want = append(withWords(b, [2]int64{3, 9}, [2]int64{4, 10}), 32771, 0, 0, 0, 0, 0, 0, 0)
	want = append(want, 11, 12, 0, 0, 0, 0, 0, 0, 1, 1, 0, 1, 0, 0, 0, 0, 0, 1, 1, 1, 1, 0, 0, 0)
	checkRepaired(t, "three that are lost, and a slot for one", b, want)
}

// TestFirstThatIsLostWithoutTables: the new one leads nowhere.
func TestFirstThatIsLostWithoutTables(t *testing.T) {
	for size := int64(1); size <= 64; size += 9 {
		b := laid(impl.Head{Size: size, Refs: 1}, []int64{2}, []int64{1, 1, 1})
		want := laid(impl.Head{Size: size, First: 3, Refs: 1}, []int64{2}, []int64{1, 1, 1, 1}, nil)
		for _, first := range firstsLost(b) {
			checkRepaired(t, fmt.Sprint("First is ", first), withWord(b, 3, first), want)
		}
		// With a head alone it is as if there were nothing.
		for n := 3; n <= 8; n++ {
			head := laid(impl.Head{Size: size, First: 9, Refs: 8, Shots: 7, Many: 4})
			checkRepaired(t, fmt.Sprint("a head of ", n, " words"), head[:n], wantBlank(size))
		}
	}
}

// TestFirstThatIsLostWithShots: these are read as they were.
func TestFirstThatIsLostWithShots(t *testing.T) {
	b := withWord(inOrder(), 3, 0)
	want := withWords(inOrder(), [2]int64{3, 15}, [2]int64{26, 32772}, [2]int64{32, 32781}, [2]int64{72, 0}, [2]int64{74, 0})
	copy(want[64:], []int64{1, 1, 1, 1, 1, 1, 2, 1})
	copy(want[8:], []int64{1, 1, 1, 1, 1, 1, 3, 1})
	want = append(want, 32773, 32777, 0, 0, 0, 0, 0, 0)
	for _, first := range firstsLost(b) {
		checkRepaired(t, fmt.Sprint("First is ", first), withWord(b, 3, first), want)
	}
	for which := int64(1); which <= 2; which++ {
		for g := range int64(20) {
			checkContent(t, "repaired", want, which, g, impl.ContentOf(inOrder(), which, g)...)
		}
	}
}

// TestRefsThatIsLost: it is made anew, with blocks, and what is read stays.
func TestRefsThatIsLost(t *testing.T) {
	// 1 is First.
	want := append(withWord(someDisk(), 4, 6), 7, 0, 0, 0, 0, 0, 0, 0, 1, 1, 0, 0, 1, 1, 1, 1)
	for _, refs := range []int64{0, 1, 6, 7, 63, 64, 32767, 32768, 32770, 65535} {
		b := withWord(someDisk(), 4, refs)
		checkRepaired(t, fmt.Sprint("Refs is ", refs), b, want)
		checkNothingElseIsRead(t, "Refs is lost", someDisk(), want, true)
	}
	want = append(withWord(inOrder(), 4, 15), 16, 17, 18, 0, 0, 0, 0, 0)
	want = append(want, 1, 0, 1, 1, 2, 1, 2, 1, 0, 1, 0, 1, 1, 2, 3, 1, 1, 1, 1, 0, 0, 0, 0, 0)
	for _, refs := range []int64{0, 9, 15, 32778} {
		b := withWord(inOrder(), 4, refs)
		checkRepaired(t, fmt.Sprint("with Shots, Refs is ", refs), b, want)
		checkNothingElseIsRead(t, "with Shots", inOrder(), want, true)
	}
	// First is lost, too.
	for _, first := range firstsLost(someDisk()) {
		b := withWords(someDisk(), [2]int64{3, first}, [2]int64{4, 0}, [2]int64{8, 0})
		want := append(withWords(b, [2]int64{3, 6}, [2]int64{4, 7}), 32772, 0, 0, 0, 0, 0, 0, 0)
		want = append(want, 8, 9, 0, 0, 0, 0, 0, 0, 1, 0, 0, 0, 1, 1, 1, 1, 1, 1, 0, 0, 0, 0, 0, 0)
		checkRepaired(t, fmt.Sprint("Refs is 0, First ", first), b, want)
	}
}

// withoutShots is inOrder, put right without them, and with these words where
// their table was.
func withoutShots(words ...int64) []int64 {
	b := withWords(inOrder(), [2]int64{5, 0}, [2]int64{6, 0}, [2]int64{74, 32772}, [2]int64{32, 32781})
	copy(b[64:], []int64{1, 1, 0, 0, 1, 1, 0, 0})
	copy(b[8:], []int64{1, 1, 1, 0, 1, 1, 0, 0})
	copy(b[88:], words)
	return b
}

func TestShotsThatAreLost(t *testing.T) {
	// Not there; First; Refs; a block; no entry.
	for _, shots := range []int64{0, 15, 64, 65535, 9, 10, 1, 32779} {
		for many := int64(1); many <= 4; many++ {
			b := withWords(inOrder(), [2]int64{5, shots}, [2]int64{6, many})
			checkRepaired(t, fmt.Sprintf("Shots is %d, Many is %d", shots, many), b, withoutShots())
		}
	}
	for _, lost := range []int64{0, 1, 8, 9, 10, 11, 15, 64, 32768, 32771, 65535} {
		what := fmt.Sprint("a Shot leads to ", lost)
		b := withWord(inOrder(), 89, lost)
		want := withWords(inOrder(), [2]int64{6, 1}, [2]int64{16, 32774}, [2]int64{32, 32781}, [2]int64{74, 32772})
		copy(want[64:], []int64{1, 1, 1, 0, 1, 1, 1, 1})
		copy(want[8:], []int64{1, 1, 1, 1, 1, 1, 2, 0})
		copy(want[88:], []int64{92, 2, 0, 0})
		checkRepaired(t, what, b, want)
		b = withWord(inOrder(), 91, lost)
		want = withWords(inOrder(), [2]int64{6, 1}, [2]int64{24, 32774})
		copy(want[64:], []int64{1, 1, 0, 1, 2, 1, 1, 0})
		copy(want[8:], []int64{1, 1, 1, 1, 1, 2, 1, 0})
		copy(want[90:], []int64{0, 0})
		want[49] = 32782
		checkRepaired(t, what+", that behind", b, want)
		b = withWords(inOrder(), [2]int64{89, lost}, [2]int64{91, lost})
		checkRepaired(t, what+", and the other one, too", b, withoutShots(0, 0, 0, 0))
	}
	// Of four the first and the third.
	b := fourShots(4, 91, 9, 92, 5, 93, 9, 94, 7)
	repaired, _ := impl.Repaired(b)
	checkNames(t, "two of four", repaired, 92, 94)
	checkRepaired(t, "two of four", b, wantRepaired(b))
	for g := range int64(8) {
		checkContent(t, "the second of four", repaired, 1, g, impl.ContentOf(b, 2, g)...)
		checkContent(t, "the last of four", repaired, 2, g, impl.ContentOf(b, 4, g)...)
	}
}

func TestShotsOfNoneAreRepaired(t *testing.T) {
	for _, shots := range []int64{0, 1, 2, 3, 4, 5, 6, 63, 64, 32769, 65535} {
		checkRepaired(t, fmt.Sprint("Shots is ", shots), withWord(someDisk(), 5, shots), someDisk())
		checkRepaired(t, fmt.Sprint("Shots is ", shots), withWords(inOrder(), [2]int64{5, shots}, [2]int64{6, 0}), withoutShots())
	}
}

// ofTwoFirsts is twoFirsts put right: these are the tables, and these the counts
// of the clusters 5 to 8. Its blocks are 9 and 10.
func ofTwoFirsts(first, shot, fifth, sixth []int64, counts ...int64) []int64 {
	b := twoFirsts(first, shot)
	copy(b[16:], []int64{9, 10})
	copy(b[40:], wantCluster(fifth, 0))
	copy(b[48:], wantCluster(sixth, 0))
	b = append(b, 1, 1, 1, 1, 1, counts[0], counts[1], counts[2])
	return append(b, counts[3], 1, 1, 0, 0, 0, 0, 0)
}

// TestTablesLedToTwice: by the same slots they stay; by other ones, just that of
// the first one does.
func TestTablesLedToTwice(t *testing.T) {
	fifth, sixth, own := []int64{8}, []int64{0, 8}, []int64{32776}
	for _, flag := range []int64{0, 32768} {
		for _, c := range []struct {
			what        string
			first, shot []int64
			want        []int64
		}{
			{"the same slot", []int64{5 + flag}, []int64{5 + flag}, ofTwoFirsts([]int64{5}, []int64{5}, fifth, sixth, 2, 0, 0, 2)},
			{"the same slot, the last one", []int64{7: 5 + flag}, []int64{7: 5}, ofTwoFirsts([]int64{7: 5}, []int64{7: 5}, fifth, sixth, 2, 0, 0, 2)},
			{"the same two slots", []int64{5, 6}, []int64{5 + flag, 6 + flag}, ofTwoFirsts([]int64{5, 6}, []int64{5, 6}, fifth, sixth, 2, 2, 0, 4)},
			{"the slot behind", []int64{0, 5}, []int64{0, 0, 5 + flag}, ofTwoFirsts([]int64{0, 32773}, nil, own, sixth, 1, 0, 0, 1)},
			{"the slot ahead", []int64{0, 5}, []int64{5 + flag}, ofTwoFirsts([]int64{0, 32773}, nil, own, sixth, 1, 0, 0, 1)},
			{"two slots of one", []int64{5, 0, 5 + flag}, nil, ofTwoFirsts([]int64{32773}, nil, own, sixth, 1, 0, 0, 1)},
			{"all slots of one", slices.Repeat([]int64{5 + flag}, 8), nil, ofTwoFirsts([]int64{32773}, nil, own, sixth, 1, 0, 0, 1)},
			{"two slots of the Shot's", nil, []int64{0, 0, 5, 5 + flag}, ofTwoFirsts(nil, []int64{0, 0, 32773}, own, sixth, 1, 0, 0, 1)},
			{"crosswise", []int64{5, 6}, []int64{6 + flag, 5 + flag}, ofTwoFirsts([]int64{32773, 32774}, nil, fifth, sixth, 1, 1, 0, 2)},
			{"one slot of two is the same", []int64{5, 6}, []int64{0, 6, 5 + flag}, ofTwoFirsts([]int64{32773, 6}, []int64{0, 6}, fifth, sixth, 1, 2, 0, 3)},
		} {
			checkRepaired(t, fmt.Sprint(c.what, ", ", flag), twoFirsts(c.first, c.shot), c.want)
		}
	}
}

func TestBlocksThatAreMissing(t *testing.T) {
	b := withWord(someDisk(), 16, 0)
	want := append(withWord(b, 16, 6), 1, 1, 1, 0, 1, 1, 1, 0)
	for _, block := range []int64{0, 1, 2, 6, 63, 64, 32767, 32768, 32769, 32774} {
		checkRepaired(t, fmt.Sprint("the block is ", block), withWord(b, 16, block), want)
	}
	// Who took another one's block gets a new one.
	b = withWords(inOrder(), [2]int64{81, 8})
	want = append(withWord(b, 81, 15), 1, 1, 1, 1, 1, 2, 3, 1)
	copy(want[64:], []int64{1, 0, 1, 1, 2, 1, 2, 1})
	checkRepaired(t, "a block twice", b, want)
	b = strewn(48, nil, 40, 12)
	want = more(b, []int64{48, 49, 0, 0, 0, 50, 51},
		[]int64{1, 1, 1, 1}, []int64{0, 0, 0, 0, 1}, []int64{1}, []int64{1, 1, 1, 1})
	copy(want[24:], []int64{32808, 32780})
	checkRepaired(t, "three that are missing, and one more", b, want)
}

// TestRoomForRepairing is of clusters that are 61 to 64 when it begins: what
// can't be made makes it Blank, of its Size.
func TestRoomForRepairing(t *testing.T) {
	lost := [2]int64{3, 0}
	noRefs := [2]int64{4, 0}
	for _, c := range []struct {
		what string
		b    []int64
		want int
	}{
		{"64, nothing is missing", strewn(64, []int64{4}), 64},
		{"64, all blocks, and the last cluster", strewn(64, []int64{4, 5, 6, 7, 8, 9, 10, 11}, 63), 64},
		{"64, a cluster that is not there", strewn(64, []int64{4}, 64), 64},
		{"64, a block is missing", strewn(64, []int64{4}, 8), 0},
		{"64, the first block is missing", strewn(64, nil), 0},
		{"64, the last block is missing", strewn(64, []int64{4}, 63), 0},
		{"64, Refs is 0", withWords(strewn(64, []int64{4}), noRefs), 0},
		{"64, Refs leads nowhere", withWord(strewn(64, []int64{4}), 4, 64), 0},
		{"64, First is 0", withWords(strewn(64, []int64{4}), lost), 0},
		{"64, First leads nowhere", withWord(strewn(64, []int64{4}), 3, 64), 0},
		{"64, First and all else is lost", withWords(strewn(64, nil), lost, noRefs), 0},
		{"63, nothing is missing", strewn(63, []int64{4}), 63},
		{"63, a block is missing, and there is one of the last eight", strewn(63, []int64{4, 0, 0, 0, 0, 0, 0, 5}, 8), 64},
		{"63, the block of the last eight is missing", strewn(63, []int64{4}, 60), 64},
		{"63, a block is missing, and its own one", strewn(63, []int64{4}, 8), 0},
		{"63, two blocks are missing", strewn(63, []int64{4}, 60, 8), 0},
		{"63, Refs is 0", withWords(strewn(63, nil), noRefs), 0},
		{"63, First is 0, and there is a block of the last eight", withWords(strewn(63, []int64{4, 0, 0, 0, 0, 0, 0, 5}), lost), 64},
		{"63, First is 0, and its own block is missing", withWords(strewn(63, []int64{4}), lost), 0},
		{"63, First and Refs are 0", withWords(strewn(63, nil), lost, noRefs), 0},
		{"62, a block is missing, and its own one", strewn(62, []int64{4}, 8), 64},
		{"62, two blocks are missing, and their own one", strewn(62, []int64{4}, 8, 16), 0},
		{"62, Refs is 0", withWords(strewn(62, nil), noRefs), 0},
		{"62, First is 0, and its own block is missing", withWords(strewn(62, []int64{4}), lost), 64},
		{"62, First is 0, and two blocks are missing", withWords(strewn(62, nil), lost), 0},
		{"62, First and Refs are 0", withWords(strewn(62, nil), lost, noRefs), 0},
		{"61, Refs is 0", withWords(strewn(61, nil), noRefs), 64},
		{"61, First is 0, and two blocks are missing", withWords(strewn(61, nil), lost), 64},
		{"61, First and Refs are 0", withWords(strewn(61, nil), lost, noRefs), 0},
		{"60, First and Refs are 0", withWords(strewn(60, nil), lost, noRefs), 64},
	} {
		for _, size := range []int64{64, 20, 8} {
			// One word is a cluster, too, and so are all but one.
			for _, short := range []int{0, 1, 7} {
				b := withWord(c.b, 2, size)[:len(c.b)-short]
				what := fmt.Sprintf("%s, of %d, %d words", c.what, size, len(b))
				if c.want == 0 {
					checkBlank(t, what, b)
					continue
				}
				if got, is := impl.Repaired(b); !is || len(got) != 8*c.want {
					t.Errorf("%s: %d words are repaired, want %d", what, len(got), 8*c.want)
				}
				checkRepaired(t, what, b, wantRepaired(b))
			}
		}
	}
}

// TestBlankForWantOfRoom: the Shots are gone then, and all that was written.
func TestBlankForWantOfRoom(t *testing.T) {
	for size := int64(1); size <= 64; size++ {
		b := withWord(fills(inOrder(), 64), 2, size)
		checkBlank(t, fmt.Sprint("First is lost, the size ", size), withWord(b, 3, 0))
		checkBlank(t, fmt.Sprint("Refs is lost, the size ", size), withWord(b, 4, 0))
		checkBlank(t, fmt.Sprint("a block is lost, the size ", size), withWord(b, 81, 0))
	}
	// Nobody's clusters are not used again, however many there are.
	checkBlank(t, "zeros behind", append(withWord(someDisk(), 3, 0), make([]int64, 464)...))
	checkBlank(t, "zeros behind", append(withWord(someDisk(), 16, 0), make([]int64, 464)...))
}

// TestRepairedOfEveryLength: of images in which nothing but the length is wrong,
// and of such in which much is.
func TestRepairedOfEveryLength(t *testing.T) {
	for n := 9; n <= 16; n++ {
		b := append(someDisk(), counting(16)[:n]...)
		checkRepaired(t, fmt.Sprint(len(b), " words"), b, filledUp(b))
	}
	for n := 41; n <= 48; n++ {
		b := someDisk()[:n]
		checkRepaired(t, fmt.Sprint(n, " words"), b, filledUp(b))
	}
	images := [][]int64{
		append(withWord(someDisk(), 3, 0), slices.Repeat([]int64{32769}, 464)...),
		strewn(64, []int64{32772, 32768, 5}, 10, 10, 32831, 63, 20),
	}
	for i, long := range images {
		for n := 3; n <= 512; n++ {
			checkRepaired(t, fmt.Sprintf("the image %d, %d words", i, n), long[:n], wantRepaired(long[:n]))
		}
	}
}

// TestSeveralAreRepaired: loose claims of each kind, wrong counts, wrong flags
// and a short end, at once.
func TestSeveralAreRepaired(t *testing.T) {
	b := withWords(someDisk(), [2]int64{5, 9}, [2]int64{24, 9}, [2]int64{8, 4}, [2]int64{29, 0}, [2]int64{12, 70}, [2]int64{17, 1}, [2]int64{39, 32768}, [2]int64{32, 3})
	checkRepaired(t, "a disk", b, someDisk())
	checkRepaired(t, "a disk, and a word", append(b, 5), append(someDisk(), 5, 0, 0, 0, 0, 0, 0, 0))
	b = withWords(inOrder(),
		[2]int64{6, 4}, [2]int64{8*11 + 5, 3}, [2]int64{82, 9}, [2]int64{73, 15}, [2]int64{55, 32783},
		[2]int64{80, 32776}, [2]int64{72, 5}, [2]int64{41, 12}, [2]int64{64, 0}, [2]int64{14, 9})
	want := withWords(inOrder(), [2]int64{55, 0}, [2]int64{92, 0}, [2]int64{93, 0})
	copy(want[8*11:], []int64{91, 3, 92, 2, 0, 0, 0, 0})
	checkRepaired(t, "one of each kind", b, want)
	// First is ahead of all, and takes what it is led to.
	b = laid(impl.Head{Size: 64, First: 1, Refs: 1, Shots: 1, Many: 4}, []int64{1, 1, 2, 2, 0, 32770, 3, 1}, []int64{2, 1, 3})
	want = laid(impl.Head{Size: 64, First: 1, Refs: 3}, []int64{0, 0, 32770}, nil, []int64{4}, []int64{1, 1, 1, 1, 1})
	checkRepaired(t, "one cluster", b, want)
	b = laid(impl.Head{Size: 64, First: 1, Refs: 2, Shots: 3, Many: 4}, slices.Repeat([]int64{7}, 8), slices.Repeat([]int64{65535}, 8), slices.Repeat([]int64{6}, 8))
	checkRepaired(t, "every word leads out", b, laid(impl.Head{Size: 64, First: 1, Refs: 2}, nil, []int64{4}, nil, []int64{1, 1, 1, 0, 1}))
}

// TestRepairedOfOneWord is of Sound images in which one word is another one.
func TestRepairedOfOneWord(t *testing.T) {
	for i, sound := range soundImages()[:6] {
		for at := 2; at < len(sound); at++ {
			for _, w := range []int64{0, 5, 32772, spoiltWord(sound[at])} {
				b := withWord(sound, at, w)
				if _, is := impl.HeadIn(b); is {
					checkRepaired(t, fmt.Sprintf("the image %d, %d at %d", i, w, at), b, wantRepaired(b))
				} else if got, is := impl.Repaired(b); !is || !same(got, wantBlank(8)) {
					t.Errorf("the image %d, %d at %d: what is repaired is %v, %v", i, w, at, got, is)
				}
			}
		}
	}
}

// brokenForms are of a broken image: it itself, that without First and with
// clusters that are SecondLike, each also with so many behind that there is
// hardly room; that without First of which no word is own; and what is Mild of it.
func brokenForms(broken []int64) [][]int64 {
	lost := lostTables(broken)[2]
	many := 61 + int(broken[8]+broken[9])%4
	forms := [][]int64{slices.Clone(broken), lost, fills(filledUp(broken), many), fills(lost, many), withWord(broken, 3, 0)}
	for at := range forms[4] {
		forms[4][at] %= 32768
	}
	return append(forms, allOwn(wantRepaired(broken)))
}

// sortOfRepair tells what became of the image.
func sortOfRepair(b, repaired []int64) []string {
	blank := same(repaired, wantBlank(b[2]))
	head := wantCluster(b, 0)
	cleared := wantCleared(b)
	sorts := []string{fmt.Sprintf("First is lost %v, Blank %v", cleared[3] == 0, blank)}
	if blank {
		return sorts
	}
	if cleared[3] == 0 {
		sorts = append(sorts, fmt.Sprint("some are found ", len(wantLost(cleared)) > 0))
	}
	if cleared[3] == 0 && len(wantLoose(wantRefound(cleared))) > 1 {
		sorts = append(sorts, "what is found is cleared")
	}
	if cleared[4] == 0 {
		sorts = append(sorts, "Refs is made")
	}
	if head[6] > 0 {
		sorts = append(sorts, fmt.Sprintf("Shots stay %v, are left out %v", repaired[6] > 0, repaired[6] < head[6]))
	}
	return sorts
}

// TestRepairedOfBrokenImages is promise 16 at large; and that each sort of image
// was met that it tells of.
func TestRepairedOfBrokenImages(t *testing.T) {
	met := make(map[string]int)
	brokenImages(300, func(broken []int64) {
		for _, b := range brokenForms(broken) {
			want := wantRepaired(b)
			checkRepaired(t, fmt.Sprint(b), b, want)
			for _, sort := range sortOfRepair(b, want) {
				met[sort]++
			}
			met[fmt.Sprintf("Sound %v, Mild %v", impl.Sound(b), impl.Mild(b))]++
		}
	})
	for _, each := range []string{
		"First is lost false, Blank false", "First is lost false, Blank true", "First is lost true, Blank false", "First is lost true, Blank true",
		"some are found false", "some are found true", "what is found is cleared", "Refs is made",
		"Shots stay true, are left out false", "Shots stay true, are left out true", "Shots stay false, are left out true",
		"Sound false, Mild false", "Sound false, Mild true",
	} {
		if met[each] < 25 {
			t.Errorf("%s: it is met too seldom: %v", each, met)
		}
	}
}

func TestRepairedAnswersEverywhere(t *testing.T) {
	headedImages(func(b []int64) {
		checkRepaired(t, fmt.Sprint(len(b), " words"), b, wantRepaired(b))
	})
}

// repairedAtAll are images of every sort that is answered: no image, without a
// head, Sound, broken, without a First, and without room.
func repairedAtAll() [][]int64 {
	images := append(headless(), oddImages()...)
	images = append(images, allKinds(), allKinds()[:117], inOrder(), inOrder()[:83], someDisk()[:43], wrongFlags(), fullDisk(20), eightBlocks())
	return append(images, withWord(someDisk(), 3, 0), withWord(someDisk(), 4, 0), strewn(64, nil), fourShots(4, 91, 9, 92, 5, 93, 9, 94, 7))
}

func TestRepairedLeavesItsArgument(t *testing.T) {
	for _, words := range repairedAtAll() {
		b := guard(words)
		repaired, _ := impl.Repaired(b.list)
		spoil(repaired)
		b.check(t, "repairing")
	}
}

// TestRepairingAnswersAnew: an answer that somebody wrote over is not given
// again.
func TestRepairingAnswersAnew(t *testing.T) {
	for _, b := range repairedAtAll() {
		kept, _ := impl.Repaired(b)
		was := slices.Clone(kept)
		spoilt, _ := impl.Repaired(b)
		spoil(spoilt)
		if again, _ := impl.Repaired(b); !same(kept, was) || !same(again, was) {
			t.Error("two answers share memory")
		}
	}
	kept := impl.Blank(20)
	spoil(impl.Blank(20))
	if !same(kept, wantBlank(20)) || !same(impl.Blank(20), wantBlank(20)) {
		t.Error("two Blank ones share memory")
	}
}
