package tests

import (
	"math"
	"testing"

	"loop.example/g00821/impl"
)

// noWords are numbers that are no word; some of them would be one if only
// their low bits were looked at.
func noWords() []int64 {
	return []int64{math.MinInt64, math.MinInt64 + 32768, -1 << 32, -65537, -65536, -65535, -32769, -32768, -32767, -2, -1, 65536, 65537, 98303, 98304, 131071, 131072, 1 << 31, 1 << 32, 1<<32 + 5, math.MaxInt64 - 32768, math.MaxInt64}
}

func TestEntriesAtTheirLimits(t *testing.T) {
	for _, c := range []struct {
		e      int64
		target int64
		own    bool
	}{
		{0, 0, false},
		{1, 1, false},
		{63, 63, false},
		{32766, 32766, false},
		{32767, 32767, false},
		{32768, 0, true},
		{32769, 1, true},
		{32831, 63, true},
		{65534, 32766, true},
		{65535, 32767, true},
		{65536, -1, false},
		{-1, -1, false},
	} {
		if got := impl.TargetOf(c.e); got != c.target {
			t.Errorf("TargetOf %d is %d, want %d", c.e, got, c.target)
		}
		if got := impl.OwnIn(c.e); got != c.own {
			t.Errorf("OwnIn %d is %v, want %v", c.e, got, c.own)
		}
	}
}

func TestEntryOfAtItsLimits(t *testing.T) {
	for _, c := range []struct {
		target int64
		plain  int64
		own    int64
	}{
		{-1, -1, -1},
		{0, 0, 32768},
		{1, 1, 32769},
		{63, 63, 32831},
		{64, 64, 32832},
		{32766, 32766, 65534},
		{32767, 32767, 65535},
		{32768, -1, -1},
		{32769, -1, -1},
		{65535, -1, -1},
		{65536, -1, -1},
	} {
		if got := impl.EntryOf(c.target, false); got != c.plain {
			t.Errorf("EntryOf %d, not own, is %d, want %d", c.target, got, c.plain)
		}
		if got := impl.EntryOf(c.target, true); got != c.own {
			t.Errorf("EntryOf %d, own, is %d, want %d", c.target, got, c.own)
		}
	}
}

// TestEntryHasWhatItIsMadeOf is promise 2, of every target and flag.
func TestEntryHasWhatItIsMadeOf(t *testing.T) {
	seen := make(map[int64]bool)
	for target := range int64(32768) {
		for _, own := range []bool{false, true} {
			e := impl.EntryOf(target, own)
			if e < 0 || e > 65535 || seen[e] {
				t.Fatalf("EntryOf %d, %v is %d: no word, or that of another entry", target, own, e)
			}
			seen[e] = true
			if impl.TargetOf(e) != target || impl.OwnIn(e) != own {
				t.Fatalf("EntryOf %d, %v is %d, read as %d, %v", target, own, e, impl.TargetOf(e), impl.OwnIn(e))
			}
		}
	}
}

// TestEveryWordIsAnEntry is promise 2 the other way round.
func TestEveryWordIsAnEntry(t *testing.T) {
	for e := range int64(65536) {
		target, own := impl.TargetOf(e), impl.OwnIn(e)
		if target != e&32767 || own != (e&32768 != 0) {
			t.Fatalf("the word %d has %d, %v", e, target, own)
		}
		if back := impl.EntryOf(target, own); back != e {
			t.Fatalf("EntryOf %d, %v is %d, want %d", target, own, back, e)
		}
	}
}

func TestWhatIsNoWordIsNoEntry(t *testing.T) {
	for _, e := range noWords() {
		if got := impl.TargetOf(e); got != -1 {
			t.Errorf("TargetOf %d is %d, want -1", e, got)
		}
		if impl.OwnIn(e) {
			t.Errorf("OwnIn %d is true", e)
		}
	}
}

func TestWhatIsNoTargetMakesNoEntry(t *testing.T) {
	for _, target := range append(noWords(), 32768, 32769, 40000, 65534, 65535) {
		for _, own := range []bool{false, true} {
			if got := impl.EntryOf(target, own); got != -1 {
				t.Errorf("EntryOf %d, %v is %d, want -1", target, own, got)
			}
		}
	}
}

func TestEntriesAnswerEverywhere(t *testing.T) {
	for _, n := range oddNumbers() {
		word := n >= 0 && n <= 65535
		if got := impl.TargetOf(n); got >= 0 != word || got < -1 || got > 32767 {
			t.Errorf("TargetOf %d is %d", n, got)
		}
		if impl.OwnIn(n) && !word {
			t.Errorf("OwnIn %d is true", n)
		}
		for _, own := range []bool{false, true} {
			if got := impl.EntryOf(n, own); got >= 0 != (n >= 0 && n <= 32767) || got < -1 || got > 65535 {
				t.Errorf("EntryOf %d, %v is %d", n, own, got)
			}
		}
	}
}
