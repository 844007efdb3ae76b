package tests

import (
	"fmt"
	"slices"
	"testing"

	"loop.example/g00821/impl"
)

// laid is an image of a head and the clusters behind it; what a cluster of
// these lacks is 0.
func laid(h impl.Head, clusters ...[]int64) []int64 {
	b := wantHeadWords(h)
	for _, c := range clusters {
		b = append(b, wantCluster(c, 0)...)
	}
	return b
}

func goodClaim(kind, from, slot, place, target int64) impl.Claim {
	return impl.Claim{Kind: kind, From: from, Slot: slot, Place: place, Target: target, Good: true}
}

func looseClaim(kind, from, slot, place, target int64) impl.Claim {
	return impl.Claim{Kind: kind, From: from, Slot: slot, Place: place, Target: target}
}

func checkClaims(t *testing.T, what string, b []int64, want ...impl.Claim) {
	t.Helper()
	got := impl.ClaimsIn(b)
	if !slices.Equal(got, want) {
		t.Errorf("%s: the claims\n%v, want\n%v", what, got, want)
	}
	checkWhoLeadsWhere(t, what, b, got)
}

// checkWhoLeadsWhere is promise 6: no Good claim leads out of the image or past
// the disk's end, no two of them make two things of a cluster, and nobody
// leads on from a table that no Good claim leads to.
func checkWhoLeadsWhere(t *testing.T, what string, b []int64, claims []impl.Claim) {
	t.Helper()
	for i, c := range claims {
		if c.From != 0 && !slices.ContainsFunc(claims[:i], func(to impl.Claim) bool { return to.Good && to.Target == c.From }) {
			t.Fatalf("%s: %v stands in a table that nobody leads to", what, c)
		}
		if !c.Good {
			continue
		}
		if (c.Target == 0) != (c.Kind == 1) || c.Target < 0 || c.Target >= int64(wantMany(b)) || c.Place < 0 || c.Place >= b[2] {
			t.Fatalf("%s: %v is Good and leads out", what, c)
		}
		for _, other := range claims[:i] {
			if !other.Good || other.Target != c.Target {
				continue
			}
			shared := c.Kind == 8 || c.Kind == 7 && other.Slot == c.Slot && other.From != c.From
			if other.Kind != c.Kind || !shared {
				t.Fatalf("%s: %v and %v are both Good", what, other, c)
			}
		}
	}
}

// wantedClaims tells the claims straight from the list: what each cluster is
// taken for is a text, and a claim is Good where that is free, or taken for
// the very same by one who may share it.
type wantedClaims struct {
	b      []int64
	taken  map[int64]string
	claims []impl.Claim
}

func wantClaims(b []int64) []impl.Claim {
	head := wantCluster(b, 0)
	w := &wantedClaims{b: b, taken: map[int64]string{0: "the head"}}
	w.claims = append(w.claims, goodClaim(1, 0, 0, 0, 0))
	var firsts, seconds []impl.Claim
	if c := w.next("first", looseClaim(2, 0, 0, 0, head[3])); c.Good {
		firsts = append(firsts, c)
	}
	if c := w.next("refs", looseClaim(3, 0, 0, 0, head[4])); c.Good {
		w.slots(c.Target, func(slot, target int64) {
			w.next("block", looseClaim(4, c.Target, slot, 0, target))
		})
	}
	if head[6] > 0 && w.next("shots", looseClaim(5, 0, 0, 0, head[5])).Good {
		for i := range head[6] {
			first := wantCluster(b, int(head[5]))[2*i+1]
			if c := w.next("shot", looseClaim(6, head[5], i, 0, first)); c.Good {
				firsts = append(firsts, c)
			}
		}
	}
	for _, to := range firsts {
		w.slots(to.Target, func(slot, target int64) {
			if c := w.next(fmt.Sprint("second ", slot), looseClaim(7, to.Target, slot, slot*8, target)); c.Good {
				seconds = append(seconds, c)
			}
		})
	}
	for _, to := range seconds {
		w.slots(to.Target, func(slot, target int64) {
			w.next("data", looseClaim(8, to.Target, slot, to.Place+slot, target))
		})
	}
	return w.claims
}

func (w *wantedClaims) next(what string, c impl.Claim) impl.Claim {
	taken, is := w.taken[c.Target]
	free := !is || taken == what && c.Kind >= 7
	c.Good = c.Target > 0 && c.Target < int64(wantMany(w.b)) && c.Place < w.b[2] && free
	if c.Good {
		w.taken[c.Target] = what
	}
	w.claims = append(w.claims, c)
	return c
}

func (w *wantedClaims) slots(table int64, each func(slot, target int64)) {
	for slot, word := range wantCluster(w.b, int(table)) {
		if word&32767 != 0 {
			each(int64(slot), word&32767)
		}
	}
}

// someDisk is a disk of 20 that is in order: of its clusters one was written.
func someDisk() []int64 {
	return laid(impl.Head{Size: 20, First: 1, Refs: 2}, []int64{32772}, []int64{3}, []int64{1, 1, 1, 1, 1, 1}, []int64{0, 0, 32773}, []int64{7, 7, 7, 7, 7, 7, 7, 9})
}

// allKinds is an image with Good claims of every kind: a disk of 20 clusters
// and two Shots of it. The clusters 7 and 9 are second tables that two first
// tables share, and both of them lead to 10.
func allKinds() []int64 {
	return laid(impl.Head{Size: 20, First: 1, Refs: 2, Shots: 4, Many: 2},
		[]int64{7, 0, 32776},                        // 1: the first table
		[]int64{3, 0, 0, 0, 0, 0, 0, 13},            // 2: Refs
		[]int64{1, 1, 1, 1, 1, 1, 1, 2},             // 3: a block
		[]int64{91, 5, 92, 6, 93, 1, 94, 2},         // 4: Shots
		[]int64{7, 9},                               // 5: the first table of a Shot
		[]int64{32768, 9},                           // 6: that of the other one
		[]int64{10, 0, 0, 0, 0, 0, 0, 11},           // 7: a second table
		[]int64{0, 32768, 0, 32780},                 // 8: one of the disk alone
		[]int64{0, 0, 0, 0, 0, 10},                  // 9: one of the Shots alone
		[]int64{1, 2, 3, 4, 5, 6, 7, 8},             // 10
		[]int64{2, 2, 2, 2, 2, 2, 2, 2},             // 11
		[]int64{32769, 3, 3, 3, 3, 3, 3, 3},         // 12
		[]int64{0, 0, 0, 0, 0, 0, 0, 0},             // 13: a block
		[]int64{32775, 10, 99, 65535, 1, 2, 3, 256}, // 14: nobody's
	)
}

func TestKindsOfClaims(t *testing.T) {
	for i, kind := range []int{impl.ClHead, impl.ClFirst, impl.ClRefs, impl.ClBlock, impl.ClShots, impl.ClShot, impl.ClSecond, impl.ClData} {
		if kind != i+1 {
			t.Errorf("the kind %d is %d", i+1, kind)
		}
	}
}

func TestClaimsOfAllKindsInOrder(t *testing.T) {
	checkClaims(t, "all kinds", allKinds(),
		goodClaim(1, 0, 0, 0, 0),
		goodClaim(2, 0, 0, 0, 1),
		goodClaim(3, 0, 0, 0, 2),
		goodClaim(4, 2, 0, 0, 3),
		goodClaim(4, 2, 7, 0, 13),
		goodClaim(5, 0, 0, 0, 4),
		goodClaim(6, 4, 0, 0, 5),
		goodClaim(6, 4, 1, 0, 6),
		goodClaim(7, 1, 0, 0, 7),
		goodClaim(7, 1, 2, 16, 8),
		goodClaim(7, 5, 0, 0, 7),
		goodClaim(7, 5, 1, 8, 9),
		goodClaim(7, 6, 1, 8, 9),
		goodClaim(8, 7, 0, 0, 10),
		goodClaim(8, 7, 7, 7, 11),
		goodClaim(8, 8, 3, 19, 12),
		goodClaim(8, 7, 0, 0, 10),
		goodClaim(8, 7, 7, 7, 11),
		goodClaim(8, 9, 5, 13, 10),
		goodClaim(8, 9, 5, 13, 10),
	)
}

func TestClaimsOfEmptyDisks(t *testing.T) {
	for _, size := range []int64{1, 8, 64} {
		checkClaims(t, "no tables but the first ones", laid(impl.Head{Size: size, First: 1, Refs: 2}, nil, nil),
			goodClaim(1, 0, 0, 0, 0), goodClaim(2, 0, 0, 0, 1), goodClaim(3, 0, 0, 0, 2))
		checkClaims(t, "a block", laid(impl.Head{Size: size, First: 2, Refs: 1}, []int64{0, 3}, nil, []int64{1, 2, 3}),
			goodClaim(1, 0, 0, 0, 0), goodClaim(2, 0, 0, 0, 2), goodClaim(3, 0, 0, 0, 1), goodClaim(4, 1, 1, 0, 3))
	}
}

// TestClaimsOfATargetOfZero: it is the head's own cluster, and no table.
func TestClaimsOfATargetOfZero(t *testing.T) {
	head, first, refs := goodClaim(1, 0, 0, 0, 0), goodClaim(2, 0, 0, 0, 1), goodClaim(3, 0, 0, 0, 2)
	b := laid(impl.Head{Size: 64, First: 1, Refs: 2, Shots: 3, Many: 1}, nil, nil, []int64{9})
	checkClaims(t, "by a Shot", b, head, first, refs, goodClaim(5, 0, 0, 0, 3), looseClaim(6, 3, 0, 0, 0))
	checkClaims(t, "by four Shots", withWord(b, 6, 4), head, first, refs, goodClaim(5, 0, 0, 0, 3),
		looseClaim(6, 3, 0, 0, 0), looseClaim(6, 3, 1, 0, 0), looseClaim(6, 3, 2, 0, 0), looseClaim(6, 3, 3, 0, 0))
	checkClaims(t, "by Shots", withWord(b, 5, 0), head, first, refs, looseClaim(5, 0, 0, 0, 0))
	checkClaims(t, "by Refs", withWord(b, 4, 0), head, first, looseClaim(3, 0, 0, 0, 0), goodClaim(5, 0, 0, 0, 3), looseClaim(6, 3, 0, 0, 0))
	checkClaims(t, "by First", withWord(b, 3, 0), head, looseClaim(2, 0, 0, 0, 0), refs, goodClaim(5, 0, 0, 0, 3), looseClaim(6, 3, 0, 0, 0))
	for n := 3; n <= 8; n++ {
		checkClaims(t, "of a head alone", laid(impl.Head{Size: 64})[:n], head, looseClaim(2, 0, 0, 0, 0), looseClaim(3, 0, 0, 0, 0))
	}
	checkClaims(t, "of a head alone, with Shots", laid(impl.Head{Size: 64, Many: 4}),
		head, looseClaim(2, 0, 0, 0, 0), looseClaim(3, 0, 0, 0, 0), looseClaim(5, 0, 0, 0, 0))
	// A slot of the word 0, or of 32768, has no target and makes no claim.
	own := []int64{32768, 0, 32768, 0, 0, 0, 0, 32768}
	checkClaims(t, "by slots", laid(impl.Head{Size: 64, First: 1, Refs: 2}, own, own), head, first, refs)
	b = laid(impl.Head{Size: 64, First: 1, Refs: 2}, []int64{3}, own, own)
	checkClaims(t, "by slots of a second table", b, head, first, refs, goodClaim(7, 1, 0, 0, 3))
}

// oneOfEach has one Good claim of each kind, which is its target and 1 more.
func oneOfEach() []int64 {
	return laid(impl.Head{Size: 64, First: 1, Refs: 2, Shots: 4, Many: 4},
		[]int64{0, 6},
		[]int64{0, 0, 3},
		nil,
		[]int64{91, 5},
		nil,
		[]int64{0, 0, 0, 7},
		[]int64{6, 6, 6, 6, 6, 6, 6, 6},
		nil,
	)
}

// teller is where the word of a claim stands, and what that claim is but for
// its target.
type teller struct {
	at                      int
	kind, from, slot, place int64
	isEntry                 bool
}

func (w teller) claim(target int64, good bool) impl.Claim {
	return impl.Claim{Kind: w.kind, From: w.from, Slot: w.slot, Place: w.place, Target: target, Good: good}
}

// whoTells is of oneOfEach, in the order of its claims.
func whoTells() []teller {
	return []teller{
		{at: 3, kind: 2},
		{at: 4, kind: 3},
		{at: 18, kind: 4, from: 2, slot: 2, isEntry: true},
		{at: 5, kind: 5},
		{at: 33, kind: 6, from: 4},
		{at: 9, kind: 7, from: 1, slot: 1, place: 8, isEntry: true},
		{at: 51, kind: 8, from: 6, slot: 3, place: 11, isEntry: true},
	}
}

func checkHasClaim(t *testing.T, what string, b []int64, want impl.Claim) {
	t.Helper()
	claims := impl.ClaimsIn(b)
	if !slices.Contains(claims, want) {
		t.Errorf("%s: %v is none of %v", what, want, claims)
	}
	want.Good = !want.Good
	if slices.Contains(claims, want) {
		t.Errorf("%s: %v is one of %v", what, want, claims)
	}
	checkWhoLeadsWhere(t, what, b, claims)
}

func TestClaimsOfTargetsThatAreNotThere(t *testing.T) {
	for _, w := range whoTells() {
		for _, target := range []int64{9, 10, 63, 64, 65, 20559, 32767} {
			b := withWord(oneOfEach(), w.at, target)
			what := fmt.Sprintf("the kind %d of %d", w.kind, target)
			checkHasClaim(t, what, b, w.claim(target, false))
			if w.isEntry {
				checkHasClaim(t, what+", own", withWord(b, w.at, target+32768), w.claim(target, false))
			}
		}
		// The cluster 8 is the last one, and nobody's else.
		checkHasClaim(t, "the last cluster", withWord(oneOfEach(), w.at, 8), w.claim(8, true))
	}
}

// TestOnlySlotsAreEntries: First, Refs, Shots and the First of a Shot are
// targets as they stand, so that 32776 is not the cluster 8.
func TestOnlySlotsAreEntries(t *testing.T) {
	for _, w := range whoTells() {
		b := withWord(oneOfEach(), w.at, 8+32768)
		want := w.claim(8+32768, false)
		if w.isEntry {
			want = w.claim(8, true)
		}
		checkHasClaim(t, fmt.Sprint("the kind ", w.kind), b, want)
	}
}

// TestClaimsOfOneTarget is of each pair of kinds that are not the same: who is
// ahead is Good, and who is behind is not.
func TestClaimsOfOneTarget(t *testing.T) {
	tellers := whoTells()
	for i, ahead := range tellers {
		checkHasClaim(t, "alone", oneOfEach(), ahead.claim(ahead.kind-1, true))
		for _, behind := range tellers[i+1:] {
			target := ahead.kind - 1
			what := fmt.Sprintf("the kinds %d and %d", ahead.kind, behind.kind)
			b := withWord(oneOfEach(), behind.at, target)
			checkHasClaim(t, what, b, ahead.claim(target, true))
			checkHasClaim(t, what, b, behind.claim(target, false))
			if behind.isEntry {
				b = withWord(b, behind.at, target+32768)
				checkHasClaim(t, what+", own", b, behind.claim(target, false))
			}
		}
	}
}

func TestClaimsOfOneTargetAndKind(t *testing.T) {
	for _, c := range []struct {
		what        string
		at          int
		word        int64
		first, then impl.Claim
	}{
		{"two blocks", 23, 3, goodClaim(4, 2, 2, 0, 3), looseClaim(4, 2, 7, 0, 3)},
		{"two blocks, the other one ahead", 16, 3, goodClaim(4, 2, 0, 0, 3), looseClaim(4, 2, 2, 0, 3)},
		{"two blocks, own", 23, 32771, goodClaim(4, 2, 2, 0, 3), looseClaim(4, 2, 7, 0, 3)},
		{"two Shots", 39, 5, goodClaim(6, 4, 0, 0, 5), looseClaim(6, 4, 3, 0, 5)},
		{"two second tables", 15, 6, goodClaim(7, 1, 1, 8, 6), looseClaim(7, 1, 7, 56, 6)},
		{"two second tables, the other one ahead", 8, 6, goodClaim(7, 1, 0, 0, 6), looseClaim(7, 1, 1, 8, 6)},
		{"two second tables, own", 15, 32774, goodClaim(7, 1, 1, 8, 6), looseClaim(7, 1, 7, 56, 6)},
		{"two of the disk", 55, 7, goodClaim(8, 6, 3, 11, 7), goodClaim(8, 6, 7, 15, 7)},
		{"two of the disk, own", 48, 32775, goodClaim(8, 6, 0, 8, 7), goodClaim(8, 6, 3, 11, 7)},
	} {
		b := withWord(oneOfEach(), c.at, c.word)
		checkHasClaim(t, c.what, b, c.first)
		checkHasClaim(t, c.what, b, c.then)
	}
}

// fullDisk has every place of 64: the cluster 10 is all of the disk's.
func fullDisk(size int64) []int64 {
	b := laid(impl.Head{Size: size, First: 1, Refs: 11}, []int64{2, 3, 4, 5, 6, 7, 8, 9})
	for range 64 {
		b = append(b, 10)
	}
	return append(b, make([]int64, 16)...)
}

func TestClaimsAtTheSize(t *testing.T) {
	for size := int64(1); size <= 64; size++ {
		want := []impl.Claim{goodClaim(1, 0, 0, 0, 0), goodClaim(2, 0, 0, 0, 1), goodClaim(3, 0, 0, 0, 11)}
		for slot := range int64(8) {
			c := looseClaim(7, 1, slot, slot*8, slot+2)
			c.Good = slot*8 <= size-1
			want = append(want, c)
		}
		for place := range (size + 7) / 8 * 8 {
			c := looseClaim(8, place/8+2, place%8, place, 10)
			c.Good = place <= size-1
			want = append(want, c)
		}
		checkClaims(t, fmt.Sprint("the size ", size), fullDisk(size), want...)
	}
}

func TestPlacesJustAtTheSize(t *testing.T) {
	b := laid(impl.Head{Size: 17, First: 1, Refs: 2}, []int64{0, 3, 4, 5}, nil, []int64{0, 0, 0, 0, 0, 0, 0, 6}, []int64{6, 7}, []int64{6}, nil, nil)
	checkHasClaim(t, "a second table at the last place", b, goodClaim(7, 1, 2, 16, 4))
	checkHasClaim(t, "the last place", b, goodClaim(8, 4, 0, 16, 6))
	checkHasClaim(t, "the place of Size", b, looseClaim(8, 4, 1, 17, 7))
	b[2] = 16
	checkHasClaim(t, "a second table at the place of Size", b, looseClaim(7, 1, 2, 16, 4))
	checkHasClaim(t, "the place of Size less 1", b, goodClaim(8, 3, 7, 15, 6))
	b[2] = 15
	checkHasClaim(t, "a second table ahead of it", b, goodClaim(7, 1, 1, 8, 3))
	checkHasClaim(t, "the place of Size in it", b, looseClaim(8, 3, 7, 15, 6))
}

// TestOnlyTheDiskHasPlaces: the slots of Refs and of Shots are none.
func TestOnlyTheDiskHasPlaces(t *testing.T) {
	b := laid(impl.Head{Size: 1, First: 1, Refs: 2, Shots: 3, Many: 4},
		nil, []int64{0, 8, 0, 0, 0, 0, 0, 9}, []int64{91, 4, 92, 5, 93, 6, 94, 7}, nil, nil, nil, nil, nil, nil)
	checkClaims(t, "the size 1", b,
		goodClaim(1, 0, 0, 0, 0), goodClaim(2, 0, 0, 0, 1), goodClaim(3, 0, 0, 0, 2),
		goodClaim(4, 2, 1, 0, 8), goodClaim(4, 2, 7, 0, 9), goodClaim(5, 0, 0, 0, 3),
		goodClaim(6, 3, 0, 0, 4), goodClaim(6, 3, 1, 0, 5), goodClaim(6, 3, 2, 0, 6), goodClaim(6, 3, 3, 0, 7))
}

// twoFirsts is a disk of 64 with one Shot: their first tables are the clusters
// 1 and 4, and 5 to 7 are free for second ones, each of which leads to 8.
func twoFirsts(first, shot []int64) []int64 {
	return laid(impl.Head{Size: 64, First: 1, Refs: 2, Shots: 3, Many: 1},
		first, nil, []int64{91, 4}, shot, []int64{8}, []int64{0, 8}, []int64{0, 0, 8}, nil)
}

func checkTwoFirsts(t *testing.T, what string, first, shot []int64, want ...impl.Claim) {
	t.Helper()
	ahead := []impl.Claim{goodClaim(1, 0, 0, 0, 0), goodClaim(2, 0, 0, 0, 1), goodClaim(3, 0, 0, 0, 2), goodClaim(5, 0, 0, 0, 3), goodClaim(6, 3, 0, 0, 4)}
	checkClaims(t, what, twoFirsts(first, shot), append(ahead, want...)...)
}

func TestSecondTablesThatAreShared(t *testing.T) {
	checkTwoFirsts(t, "two From, the same Slot", []int64{0, 5}, []int64{0, 5},
		goodClaim(7, 1, 1, 8, 5), goodClaim(7, 4, 1, 8, 5), goodClaim(8, 5, 0, 8, 8), goodClaim(8, 5, 0, 8, 8))
	checkTwoFirsts(t, "two From, two Slots", []int64{0, 5}, []int64{0, 0, 5},
		goodClaim(7, 1, 1, 8, 5), looseClaim(7, 4, 2, 16, 5), goodClaim(8, 5, 0, 8, 8))
	checkTwoFirsts(t, "two From, the Slot ahead", []int64{0, 5}, []int64{5},
		goodClaim(7, 1, 1, 8, 5), looseClaim(7, 4, 0, 0, 5), goodClaim(8, 5, 0, 8, 8))
	checkTwoFirsts(t, "one From", []int64{5, 0, 5}, nil,
		goodClaim(7, 1, 0, 0, 5), looseClaim(7, 1, 2, 16, 5), goodClaim(8, 5, 0, 0, 8))
	checkTwoFirsts(t, "one From, that of the Shot", nil, []int64{0, 0, 5, 5},
		goodClaim(7, 4, 2, 16, 5), looseClaim(7, 4, 3, 24, 5), goodClaim(8, 5, 0, 16, 8))
	// A loose one is in nobody's way, and another Good one in that of the next.
	checkTwoFirsts(t, "twice each", []int64{0, 5, 5}, []int64{5, 5, 5},
		goodClaim(7, 1, 1, 8, 5), looseClaim(7, 1, 2, 16, 5), looseClaim(7, 4, 0, 0, 5), goodClaim(7, 4, 1, 8, 5), looseClaim(7, 4, 2, 16, 5),
		goodClaim(8, 5, 0, 8, 8), goodClaim(8, 5, 0, 8, 8))
	checkTwoFirsts(t, "crosswise", []int64{5, 6}, []int64{6, 5},
		goodClaim(7, 1, 0, 0, 5), goodClaim(7, 1, 1, 8, 6), looseClaim(7, 4, 0, 0, 6), looseClaim(7, 4, 1, 8, 5),
		goodClaim(8, 5, 0, 0, 8), goodClaim(8, 6, 1, 9, 8))
}

// TestSecondTablesOfEveryTwoSlots: two first tables share a second one just
// where its Slot is the same, whatever else they have.
func TestSecondTablesOfEveryTwoSlots(t *testing.T) {
	for one := range int64(8) {
		for other := range int64(8) {
			first, shot := make([]int64, 8), make([]int64, 8)
			first[one], shot[other] = 5, 32773
			then := looseClaim(7, 4, other, other*8, 5)
			then.Good = one == other
			b := twoFirsts(first, shot)
			checkHasClaim(t, "the first", b, goodClaim(7, 1, one, one*8, 5))
			checkHasClaim(t, fmt.Sprintf("the slots %d and %d", one, other), b, then)
		}
	}
}

// TestSecondTableNumberedAsAnother: who has the same From or Slot, but is of
// another kind, is in the way all the same.
func TestSecondTableNumberedAsAnother(t *testing.T) {
	b := laid(impl.Head{Size: 64, First: 1, Refs: 2, Shots: 3, Many: 1}, []int64{0, 6, 0, 0}, []int64{0, 6}, []int64{91, 4}, []int64{4}, nil, nil)
	checkHasClaim(t, "a block", b, goodClaim(4, 2, 1, 0, 6))
	checkHasClaim(t, "a second table of its slot", b, looseClaim(7, 1, 1, 8, 6))
	checkHasClaim(t, "a Shot", b, goodClaim(6, 3, 0, 0, 4))
	checkHasClaim(t, "a second table of its slot", b, looseClaim(7, 4, 0, 0, 4))
}

func TestClustersOfTheDiskThatAreShared(t *testing.T) {
	checkTwoFirsts(t, "one place of three tables", []int64{5, 6}, []int64{0, 0, 7},
		goodClaim(7, 1, 0, 0, 5), goodClaim(7, 1, 1, 8, 6), goodClaim(7, 4, 2, 16, 7),
		goodClaim(8, 5, 0, 0, 8), goodClaim(8, 6, 1, 9, 8), goodClaim(8, 7, 2, 18, 8))
	b := twoFirsts([]int64{5}, nil)
	copy(b[40:], []int64{8, 8, 32776, 7, 6, 5, 4, 9})
	checkClaims(t, "one table", b,
		goodClaim(1, 0, 0, 0, 0), goodClaim(2, 0, 0, 0, 1), goodClaim(3, 0, 0, 0, 2), goodClaim(5, 0, 0, 0, 3), goodClaim(6, 3, 0, 0, 4),
		goodClaim(7, 1, 0, 0, 5), goodClaim(8, 5, 0, 0, 8), goodClaim(8, 5, 1, 1, 8), goodClaim(8, 5, 2, 2, 8), goodClaim(8, 5, 3, 3, 7),
		goodClaim(8, 5, 4, 4, 6), looseClaim(8, 5, 5, 5, 5), looseClaim(8, 5, 6, 6, 4), looseClaim(8, 5, 7, 7, 9))
}

// TestSecondTablesComeAheadOfTheDisk: all of them do, those of the Shots too,
// so that a cluster of the disk gives way to a second table of the last Shot.
func TestSecondTablesComeAheadOfTheDisk(t *testing.T) {
	b := twoFirsts([]int64{5}, []int64{0, 6})
	b[41] = 6
	checkHasClaim(t, "a second table of the Shot", b, goodClaim(7, 4, 1, 8, 6))
	checkHasClaim(t, "the disk", b, looseClaim(8, 5, 1, 1, 6))
}

func TestShotsOfNone(t *testing.T) {
	for _, shots := range []int64{0, 1, 2, 3, 4, 5, 9, 14, 15, 32772, 65535} {
		b := withWord(withWord(allKinds(), 6, 0), 5, shots)
		checkClaims(t, fmt.Sprint("Many 0, Shots ", shots), b,
			goodClaim(1, 0, 0, 0, 0), goodClaim(2, 0, 0, 0, 1), goodClaim(3, 0, 0, 0, 2), goodClaim(4, 2, 0, 0, 3), goodClaim(4, 2, 7, 0, 13),
			goodClaim(7, 1, 0, 0, 7), goodClaim(7, 1, 2, 16, 8),
			goodClaim(8, 7, 0, 0, 10), goodClaim(8, 7, 7, 7, 11), goodClaim(8, 8, 3, 19, 12))
	}
	// What Shots would be is nobody's then.
	b := laid(impl.Head{Size: 8, First: 1, Refs: 2, Shots: 4}, []int64{3}, nil, []int64{4}, nil)
	checkHasClaim(t, "a cluster of the disk", b, goodClaim(8, 3, 0, 0, 4))
}

func TestShotsOfEveryMany(t *testing.T) {
	for many := int64(1); many <= 4; many++ {
		b := withWord(oneOfEach(), 6, many)
		copy(b[32:], []int64{91, 5, 92, 8, 93, 9, 94, 7})
		want := []impl.Claim{goodClaim(6, 4, 0, 0, 5), goodClaim(6, 4, 1, 0, 8), looseClaim(6, 4, 2, 0, 9), goodClaim(6, 4, 3, 0, 7)}
		var got []impl.Claim
		for _, c := range impl.ClaimsIn(b) {
			if c.Kind == 6 {
				got = append(got, c)
			}
		}
		if !slices.Equal(got, want[:many]) {
			t.Errorf("%d Shots: %v", many, got)
		}
	}
}

// countKinds is how many claims there are of each kind.
func countKinds(b []int64) [9]int {
	var many [9]int
	for _, c := range impl.ClaimsIn(b) {
		many[c.Kind]++
	}
	return many
}

// TestTablesThatAreNotGoneInto: the words of a table make no claim where the
// claim that leads to it is not Good, though the table be there.
func TestTablesThatAreNotGoneInto(t *testing.T) {
	for _, c := range []struct {
		what string
		at   int
		word int64
		many [9]int
	}{
		{"all are", 7, 0, [9]int{0, 1, 1, 1, 2, 1, 2, 5, 7}},
		{"First is not there", 3, 15, [9]int{0, 1, 1, 1, 2, 1, 2, 3, 4}},
		{"First is 0", 3, 0, [9]int{0, 1, 1, 1, 2, 1, 2, 3, 4}},
		{"Refs is First", 4, 1, [9]int{0, 1, 1, 1, 0, 1, 2, 5, 7}},
		{"Refs is not there", 4, 15, [9]int{0, 1, 1, 1, 0, 1, 2, 5, 7}},
		{"Refs is another one", 4, 14, [9]int{0, 1, 1, 1, 8, 1, 2, 5, 3}},
		{"Shots is First", 5, 1, [9]int{0, 1, 1, 1, 2, 1, 0, 2, 3}},
		{"Shots is Refs", 5, 2, [9]int{0, 1, 1, 1, 2, 1, 0, 2, 3}},
		{"Shots is a block", 5, 3, [9]int{0, 1, 1, 1, 2, 1, 0, 2, 3}},
		{"Shots is not there", 5, 15, [9]int{0, 1, 1, 1, 2, 1, 0, 2, 3}},
		{"a Shot is First", 33, 1, [9]int{0, 1, 1, 1, 2, 1, 2, 3, 4}},
		{"a Shot is Refs", 33, 2, [9]int{0, 1, 1, 1, 2, 1, 2, 3, 4}},
		{"a Shot is a block", 33, 3, [9]int{0, 1, 1, 1, 2, 1, 2, 3, 4}},
		{"a Shot is Shots", 33, 4, [9]int{0, 1, 1, 1, 2, 1, 2, 3, 4}},
		{"a Shot is the next one", 33, 6, [9]int{0, 1, 1, 1, 2, 1, 2, 3, 4}},
		{"a second table is First", 10, 1, [9]int{0, 1, 1, 1, 2, 1, 2, 5, 6}},
		{"a second table is another one", 10, 7, [9]int{0, 1, 1, 1, 2, 1, 2, 5, 6}},
		{"a second table is past the end", 11, 14, [9]int{0, 1, 1, 1, 2, 1, 2, 6, 7}},
		{"a second table is not past the end", 9, 14, [9]int{0, 1, 1, 1, 2, 1, 2, 6, 15}},
	} {
		b := withWord(allKinds(), c.at, c.word)
		if got := countKinds(b); got != c.many {
			t.Errorf("%s: of each kind %v, want %v: %v", c.what, got, c.many, impl.ClaimsIn(b))
		}
		checkWhoLeadsWhere(t, c.what, b, impl.ClaimsIn(b))
	}
}

// TestLooseClaimsAreInNobodysWay: just what is Good takes a cluster.
func TestLooseClaimsAreInNobodysWay(t *testing.T) {
	b := laid(impl.Head{Size: 8, First: 1, Refs: 2, Shots: 3, Many: 1}, []int64{0, 6, 5}, nil, []int64{91, 4}, []int64{6}, nil, []int64{5})
	checkClaims(t, "a second table past the end", b,
		goodClaim(1, 0, 0, 0, 0), goodClaim(2, 0, 0, 0, 1), goodClaim(3, 0, 0, 0, 2), goodClaim(5, 0, 0, 0, 3), goodClaim(6, 3, 0, 0, 4),
		looseClaim(7, 1, 1, 8, 6), looseClaim(7, 1, 2, 16, 5), goodClaim(7, 4, 0, 0, 6), goodClaim(8, 6, 0, 0, 5))
}

func TestFirstTablesThatAreAlike(t *testing.T) {
	head := impl.Head{Size: 64, First: 1, Refs: 2, Shots: 3, Many: 3}
	told := []impl.Claim{goodClaim(1, 0, 0, 0, 0), goodClaim(2, 0, 0, 0, 1), goodClaim(3, 0, 0, 0, 2), goodClaim(5, 0, 0, 0, 3)}
	of := func(claims ...impl.Claim) []impl.Claim { return append(slices.Clone(told), claims...) }
	checkClaims(t, "one cluster of all", laid(head, []int64{0, 5}, nil, []int64{91, 1, 92, 1, 93, 1}, nil, []int64{6}, nil), of(
		looseClaim(6, 3, 0, 0, 1), looseClaim(6, 3, 1, 0, 1), looseClaim(6, 3, 2, 0, 1),
		goodClaim(7, 1, 1, 8, 5), goodClaim(8, 5, 0, 8, 6))...)
	checkClaims(t, "one cluster of the Shots", laid(head, nil, nil, []int64{91, 4, 91, 4, 91, 4}, []int64{0, 5}, []int64{6}, nil), of(
		goodClaim(6, 3, 0, 0, 4), looseClaim(6, 3, 1, 0, 4), looseClaim(6, 3, 2, 0, 4),
		goodClaim(7, 4, 1, 8, 5), goodClaim(8, 5, 0, 8, 6))...)
	words := []int64{0, 5}
	checkClaims(t, "the same words", laid(head, words, nil, []int64{91, 4, 91, 7, 91, 8}, words, []int64{6}, nil, words, words), of(
		goodClaim(6, 3, 0, 0, 4), goodClaim(6, 3, 1, 0, 7), goodClaim(6, 3, 2, 0, 8),
		goodClaim(7, 1, 1, 8, 5), goodClaim(7, 4, 1, 8, 5), goodClaim(7, 7, 1, 8, 5), goodClaim(7, 8, 1, 8, 5),
		goodClaim(8, 5, 0, 8, 6), goodClaim(8, 5, 0, 8, 6), goodClaim(8, 5, 0, 8, 6), goodClaim(8, 5, 0, 8, 6))...)
}

// TestTablesThatLeadToThemselves: going into them ends.
func TestTablesThatLeadToThemselves(t *testing.T) {
	all := []int64{1, 32769, 1, 32769, 1, 1, 1, 1}
	want := []impl.Claim{goodClaim(1, 0, 0, 0, 0), goodClaim(2, 0, 0, 0, 1), looseClaim(3, 0, 0, 0, 1), looseClaim(5, 0, 0, 0, 1)}
	for slot := range int64(8) {
		want = append(want, looseClaim(7, 1, slot, slot*8, 1))
	}
	checkClaims(t, "one table for all", laid(impl.Head{Size: 64, First: 1, Refs: 1, Shots: 1, Many: 4}, all), want...)
	b := laid(impl.Head{Size: 8, First: 1, Refs: 2, Shots: 3, Many: 1}, []int64{4}, []int64{2, 1}, []int64{3, 3}, []int64{4, 1, 2, 3})
	checkClaims(t, "each to itself", b,
		goodClaim(1, 0, 0, 0, 0), goodClaim(2, 0, 0, 0, 1), goodClaim(3, 0, 0, 0, 2), looseClaim(4, 2, 0, 0, 2), looseClaim(4, 2, 1, 0, 1),
		goodClaim(5, 0, 0, 0, 3), looseClaim(6, 3, 0, 0, 3), goodClaim(7, 1, 0, 0, 4),
		looseClaim(8, 4, 0, 0, 4), looseClaim(8, 4, 1, 1, 1), looseClaim(8, 4, 2, 2, 2), looseClaim(8, 4, 3, 3, 3))
}

// TestClaimsInALastClusterThatLacksWords: what it lacks is 0, and what stands
// in the spare room behind the list is not part of it.
func TestClaimsInALastClusterThatLacksWords(t *testing.T) {
	head := impl.Head{Size: 64, First: 1, Refs: 2, Shots: 3, Many: 4}
	last := []int64{4, 5, 6, 4, 5, 6, 4, 5}
	tables := [][]int64{{4}, {5}, {91, 6}, nil, nil, nil, last}
	for at, kind := range map[int]int64{3: 7, 4: 4, 5: 6, 8: 8} {
		whole := withWord(laid(head, tables...), at, 7)
		for n := 57; n <= 64; n++ {
			b := whole[:n]
			claims := impl.ClaimsIn(b)
			if want := wantClaims(slices.Clone(b)); !slices.Equal(claims, want) {
				t.Fatalf("%d words, the word %d is 7: %v, want %v", n, at, claims, want)
			}
			checkSlotsTold(t, claims, kind, n-56)
		}
		if claims := impl.ClaimsIn(whole[:56]); slices.ContainsFunc(claims, func(c impl.Claim) bool { return c.Good && c.Target == 7 || c.From == 7 }) {
			t.Errorf("the cluster 7 is not there: %v", claims)
		}
	}
}

// checkSlotsTold: of the table 7 the first many words are told, and what is
// behind them is no target; but a Shot is told even where its First is 0.
func checkSlotsTold(t *testing.T, claims []impl.Claim, kind int64, many int) {
	t.Helper()
	want := many
	if kind == 6 {
		want = 4
	}
	var told int
	for _, c := range claims {
		if c.From != 7 {
			continue
		}
		told++
		if kind == 6 && (c.Target == 0) != (2*int(c.Slot)+1 >= many) || c.Kind != kind {
			t.Errorf("%d words: %v", many, c)
		}
	}
	if told != want {
		t.Errorf("%d words: %d claims of the kind %d, want %d", many, told, kind, want)
	}
}

func TestClaimsAtTheLastCluster(t *testing.T) {
	b := laid(impl.Head{Size: 64, First: 63, Refs: 62}, make([][]int64, 63)...)
	b[63*8], b[62*8] = 61, 60
	b[61*8], b[61*8+1] = 59, 64
	checkClaims(t, "64 clusters", b,
		goodClaim(1, 0, 0, 0, 0), goodClaim(2, 0, 0, 0, 63), goodClaim(3, 0, 0, 0, 62), goodClaim(4, 62, 0, 0, 60),
		goodClaim(7, 63, 0, 0, 61), goodClaim(8, 61, 0, 0, 59), looseClaim(8, 61, 1, 1, 64))
	checkClaims(t, "63 clusters", b[:504],
		goodClaim(1, 0, 0, 0, 0), looseClaim(2, 0, 0, 0, 63), goodClaim(3, 0, 0, 0, 62), goodClaim(4, 62, 0, 0, 60))
}

// nearlyAllKinds are headless lists, those among them that but for one word, or
// for their length, would have claims of every kind.
func nearlyAllKinds() [][]int64 {
	lists := headless()
	for _, w := range [][2]int64{{0, 20558}, {1, 2}, {2, 0}, {2, 65}, {6, 5}, {7, 1}, {3, -1}, {4, 65536}, {119, -1}, {119, 65536}, {60, -1}} {
		lists = append(lists, withWord(allKinds(), int(w[0]), w[1]))
	}
	return append(lists, allKinds()[:2], append(allKinds(), make([]int64, 393)...))
}

func TestClaimsWithoutAHead(t *testing.T) {
	for i, b := range nearlyAllKinds() {
		wantNoHead(t, "headless", b)
		if got := impl.ClaimsIn(b); len(got) != 0 {
			t.Errorf("the list %d: the claims %v", i, got)
		}
	}
	if got := impl.ClaimsIn(append(allKinds(), make([]int64, 392)...)); len(got) != 20 {
		t.Errorf("512 words: the claims %v", got)
	}
}

// brokenImages hands on images that each differ in some words from one that is
// in order: words that lead into them mostly, in tables that are in use mostly.
func brokenImages(many int, each func(b []int64)) {
	state := uint64(1)
	next := func(below int) int {
		state = state*6364136223846793005 + 1442695040888963407
		return int((state >> 33) % uint64(below))
	}
	for i := range many {
		whole := [][]int64{allKinds(), oneOfEach(), fullDisk(20), twoFirsts([]int64{5, 6, 7}, []int64{5, 6})}[i%4]
		for range next(12) {
			whole[8+next(len(whole)-8)] = int64(next(len(whole)/8+2) + 32768*next(2))
		}
		for range next(3) {
			whole[3+next(3)] = int64(next(len(whole)/8 + 1))
		}
		if next(2) == 0 {
			whole[2], whole[6] = int64(1+next(64)), int64(next(5))
		}
		each(whole[:len(whole)-next(2)*next(20)])
	}
}

// TestClaimsOfBrokenImages is promise 6 at large, and that each kind (but the
// head's) was met both Good and loose.
func TestClaimsOfBrokenImages(t *testing.T) {
	met := make(map[impl.Claim]int)
	brokenImages(20000, func(b []int64) {
		claims := impl.ClaimsIn(b)
		if want := wantClaims(b); !slices.Equal(claims, want) {
			t.Fatalf("%v: the claims\n%v, want\n%v", b, claims, want)
		}
		checkWhoLeadsWhere(t, fmt.Sprint(b), b, claims)
		for _, c := range claims {
			met[impl.Claim{Kind: c.Kind, Good: c.Good}]++
		}
	})
	for kind := int64(1); kind <= 8; kind++ {
		if met[impl.Claim{Kind: kind, Good: true}] < 1000 || kind > 1 && met[impl.Claim{Kind: kind}] < 1000 {
			t.Errorf("the kind %d is met too seldom: %v", kind, met)
		}
	}
}

// headedImages hands on images of all sorts of lengths with heads that lead to
// all sorts of clusters, whatever words may stand in these.
func headedImages(each func(b []int64)) {
	for _, n := range []int{3, 4, 7, 8, 9, 16, 25, 53, 72, 505, 511, 512} {
		for _, at := range []int64{0, 1, 2, 6, 62, 63, 64, 32769, 65535} {
			for many := range int64(5) {
				each(headed(n, impl.Head{Size: 64, First: at, Refs: 63 - at&63, Shots: 3, Many: many}))
			}
		}
	}
}

func TestClaimsAnswerEverywhere(t *testing.T) {
	headedImages(func(b []int64) {
		if got, want := impl.ClaimsIn(b), wantClaims(b); !slices.Equal(got, want) {
			t.Fatalf("%d words: %v, want %v", len(b), got, want)
		}
	})
}

func TestClaimsLeaveTheirArguments(t *testing.T) {
	for _, words := range append(headless(), allKinds(), allKinds()[:117], oneOfEach(), fullDisk(64)) {
		b := guard(words)
		impl.ClaimsIn(b.list)
		b.check(t, "claims")
	}
}

func spoilClaims(answer []impl.Claim) {
	answer = answer[:cap(answer)]
	for i := range answer {
		answer[i] = impl.Claim{Kind: -99, Target: -99}
	}
}

// TestClaimsAnswerAnew: an answer that somebody wrote over is not given again.
func TestClaimsAnswerAnew(t *testing.T) {
	b := allKinds()
	kept := impl.ClaimsIn(b)
	spoilClaims(impl.ClaimsIn(b))
	if !slices.Equal(kept, wantClaims(b)) || !slices.Equal(impl.ClaimsIn(b), wantClaims(b)) {
		t.Error("two answers share memory")
	}
}
