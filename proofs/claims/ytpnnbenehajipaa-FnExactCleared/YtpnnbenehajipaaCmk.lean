/- Claims (chapter 6): the program's side: those of the shots. -/
import Derived.Test.YtpnnbenehajipaaCmj
namespace Go.Proofs.Ytpnnbenehajipaa
open Go.RowKit

theorem RetL.refl {w : World} {lo p : Nat} {A : Option Addr} {n cb : Nat} {size : Int} {g cap : Nat} {l : List Cm} (hb : LBox w p A n cb size g l.length cap) (ho : OwV 43 6 w lo w.heap.size g l.length cap (l.flatMap cmV)) : RetL w lo p A n cb size g l l w :=
  ⟨g, cap, hb, ho, .inl rfl, Grow2.refl _ _ _, ho.rd⟩
theorem RetL.after {w w1 w2 : World} {lo p : Nat} {A : Option Addr} {n cb : Nat} {size : Int} {g : Nat} {old l : List Cm} (b : Below w.heap.size w w1) (h : RetL w1 lo p A n cb size g old l w2) : RetL w lo p A n cb size g old l w2 := by
  obtain ⟨g2, c2, b2, o2, at2, G2, old2⟩ := h
  have := b.size
  exact ⟨g2, c2, b2, o2, by omega, Grow2.after b G2, old2⟩
theorem RetL.below {w w1 w2 : World} {lo p : Nat} {A : Option Addr} {n cb : Nat} {size : Int} {g : Nat} {old l : List Cm} (h : RetL w lo p A n cb size g old l w1) (b : Below w1.heap.size w1 w2) : RetL w lo p A n cb size g old l w2 := by
  obtain ⟨g2, c2, b2, o2, at2, G2, old2⟩ := h
  exact ⟨g2, c2, b2.keep (b.block p b2.lt), ⟨(o2.keep (b.block g2 o2.lt)).own, Nat.lt_of_lt_of_le o2.lt b.size⟩, at2, G2.below b, (old2.below b).more b.size⟩

/-- What addShots makes of a list. -/
def shotsP (xs : List Int) (h : Hd) (l : List Cm) : List Cm :=
  if goodB xs h.size l ⟨5, 0, 0, 0, h.shots, false⟩ = true then (List.range (shotsL xs).length).foldl (shotStep xs h) (addC xs h.size l ⟨5, 0, 0, 0, h.shots, false⟩) else addC xs h.size l ⟨5, 0, 0, 0, h.shots, false⟩

set_option maxRecDepth 100000 in
set_option maxHeartbeats 4000000 in
theorem addShots_any (A : Option Addr) (n cb B : Nat) (xs : List Int) (h : Hd) (p g cap lo : Nat) (l : List Cm) (w : World) (hr : Rd w B A n xs) (hn : n ≤ 2097152) (hnc : n ≤ cb) (him : imgB xs = true) (hl : l.length ≤ 10000)
    (hb : LBox w p A n cb h.size g l.length cap) (ho : OwV 43 6 w lo w.heap.size g l.length cap (l.flatMap cmV)) (hB : B ≤ p) (hpl : p < lo) (hlo : lo ≤ w.heap.size) :
    Calls Try.prog 53 #[.pointer (some ⟨p, 0, none⟩), .int .i64 h.shots] w (fun e w' => e = .returned (.tuple #[]) ∧ RetL w lo p A n cb h.size g l (shotsP xs h l) w') := by
  obtain ⟨s, f, r, u, m⟩ := h
  have hgl := ho.lt
  have hgo := ho.low
  have HC : Hid (shotsP xs ⟨s, f, r, u, m⟩ l = if goodB xs s l ⟨5, 0, 0, 0, u, false⟩ = true then (List.range (shotsL xs).length).foldl (shotStep xs ⟨s, f, r, u, m⟩) (addC xs s l ⟨5, 0, 0, 0, u, false⟩) else addC xs s l ⟨5, 0, 0, 0, u, false⟩) := rfl
  simp only at hb ⊢
  go_enter Try.func53, Try.ntmps53
  go_wp2_with fail
  refine (add_any A n cb xs s p g cap lo l ⟨5, 0, 0, 0, u, false⟩ w (hr.more (by omega)) hn him (by omega) hb ho hpl hlo).mono ?_
  rintro e w1 ⟨rfl, hL⟩
  have HLe := Lib.hid (addC_length xs s l ⟨5, 0, 0, 0, u, false⟩)
  have HPr : Hid (l <+: addC xs s l ⟨5, 0, 0, 0, u, false⟩) := List.prefix_append _ _
  generalize hl0 : addC xs s l ⟨5, 0, 0, 0, u, false⟩ = l0 at *
  have HL0 := Lib.hid hl0
  clear hl0
  cases hq : goodB xs s l ⟨5, 0, 0, 0, u, false⟩
  · have HE : Hid (shotsP xs ⟨s, f, r, u, m⟩ l = l0) := by rw [HC.out, hq]; simp [Hid]
    clear HC hq
    go_wp2_with fail
    try simp only [Exit.inBlock, Exit.then]
    refine bodyPost_ret (results_none rfl _ _ _) rfl ?_
    rw [HE.out]
    exact ⟨rfl, hL⟩
  · have HE : Hid (shotsP xs ⟨s, f, r, u, m⟩ l = (List.range (shotsL xs).length).foldl (shotStep xs ⟨s, f, r, u, m⟩) l0) := by rw [HC.out, hq]; simp [Hid]
    clear HC hq
    obtain ⟨g1, c1, hb1, ho1, at1, G1, old1⟩ := hL
    have hr1 := G1.rd hr hB (by omega) (by omega)
    have p0 : w1.cell? ⟨p, 0, none⟩ = some (.slice A n cb) := hb1.cell 0
    have s1 := G1.size
    go_wp2_with fail
    refine (implShots_any A n cb xs w1 (hr1.more (by omega)) hn hnc).mono ?_
    rintro e w2 ⟨S, cs, rfl, oS, b2⟩
    have s2 := b2.size
    have hb2 := hb1.keep (b2.block p hb1.lt)
    have ho2 : OwV 43 6 w2 lo w2.heap.size g1 l0.length c1 (l0.flatMap cmV) := ⟨(ho1.keep (b2.block g1 ho1.lt)).own, Nat.lt_of_lt_of_le ho1.lt b2.size⟩
    have HG12 : Hid (Grow2 w w2 p g) := G1.below b2
    have HO2 : Hid (RdV 6 w2 w2.heap.size (some ⟨g, 0, none⟩) l.length (l.flatMap cmV)) := (old1.below b2).more b2.size
    have HAT := Lib.hid at1
    have h4 := shotsL_length xs
    have hg1l := ho1.lt
    have hg1o := ho1.low
    have HSC := Lib.hid (fun (k : Nat) (hk : k < (shotsL xs).length) => show ∃ gs, S = some ⟨gs, 0, none⟩ ∧ w1.heap.size ≤ gs ∧ gs < w2.heap.size ∧ w2.cell? ⟨gs, k * 2, none⟩ = some (.int .i64 ((shotsL xs).getD k (0, 0)).1) ∧ w2.cell? ⟨gs, k * 2 + 1, none⟩ = some (.int .i64 ((shotsL xs).getD k (0, 0)).2) from by
      rcases oS.form with ⟨_, h0, _⟩ | ⟨gs, rfl, g1, g2, g3, g4⟩
      · omega
      · refine ⟨gs, rfl, g1, g2, ?_, ?_⟩
        · have := oS.cell (j := k * 2 + 0) (by omega)
          rw [sh_cell hk (by omega)] at this
          exact this
        · rw [oS.cell (by omega), sh_cell hk (by omega)]; rfl)
    have HRF : Hid (RetL w2 lo p A n cb s g1 l0 l0 w2) := RetL.refl hb2 ho2
    have hr2 := hr1.below (b2.mono (by omega))
    clear hb1 ho1 at1 G1 old1 oS b2 hb2 ho2 p0 hr hr1
    go_wp2_with fail
    go_loopw [17] (fun i wr => ∃ k : Nat, k ≤ (shotsL xs).length ∧ i = .int .i64 k ∧ RetL w2 lo p A n cb s g1 l0 ((List.range k).foldl (shotStep xs ⟨s, f, r, u, m⟩) l0) wr) (fun i _ => (shotsL xs).length - (intOf i).toNat)
    case atStart => exact ⟨0, Nat.zero_le _, rfl, HRF.out⟩
    case round =>
      obtain ⟨k, hk, rfl, hR⟩ := hrel
      by_cases hlt : k < (shotsL xs).length
      · obtain ⟨gs, rfl, k1, k2, k3, k4⟩ := HSC.out k hlt
        obtain ⟨g', c', hb', ho', at', G', old'⟩ := hR
        have hcs0 : wr.cell? ⟨gs, k * 2, none⟩ = some (.int .i64 ((shotsL xs).getD k (0, 0)).1) := (World.cell?_of_block (w := w2) (G'.block gs k2 (by omega) (by omega))).trans k3
        have hcs : wr.cell? ⟨gs, k * 2 + 1, none⟩ = some (.int .i64 ((shotsL xs).getD k (0, 0)).2) := (World.cell?_of_block (w := w2) (G'.block gs k2 (by omega) (by omega))).trans k4
        have HT := Lib.hid (shotFold_succ xs ⟨s, f, r, u, m⟩ l0 k)
        have HLk := Lib.hid (shotFold_length xs ⟨s, f, r, u, m⟩ l0 k)
        have HPk := Lib.hid (shotFold_prefix xs ⟨s, f, r, u, m⟩ l0 k)
        have hlk : ((List.range k).foldl (shotStep xs ⟨s, f, r, u, m⟩) l0).length ≤ 100000 := by have := HLk.out; have := HLe.out; omega
        generalize (List.range k).foldl (shotStep xs ⟨s, f, r, u, m⟩) l0 = lk at *
        have HS : Hid (shotStep xs ⟨s, f, r, u, m⟩ lk k = addC xs s lk ⟨6, u, k, 0, ((shotsL xs).getD k (0, 0)).2, false⟩) := rfl
        generalize ((shotsL xs).getD k (0, 0)).2 = x at *
        generalize ((shotsL xs).getD k (0, 0)).1 = y at *
        have hr3 := G'.rd hr2 hB (by omega) (by omega)
        have sr := G'.size
        have AL := (Below.refl wr.heap.size wr).alloc (Nat.le_refl _) (.cells #[.int .i64 y, .int .i64 x] 65)
        have hsa : (wr.alloc (.cells #[.int .i64 y, .int .i64 x] 65)).heap.size = wr.heap.size + 1 := by simp
        have hb3 := hb'.keep (AL.block p hb'.lt)
        have ho3 : OwV 43 6 (wr.alloc (.cells #[.int .i64 y, .int .i64 x] 65)) lo (wr.alloc (.cells #[.int .i64 y, .int .i64 x] 65)).heap.size g' lk.length c' (lk.flatMap cmV) := ⟨(ho'.keep (AL.block g' ho'.lt)).own, Nat.lt_of_lt_of_le ho'.lt AL.size⟩
        go_wp2_with fail
        refine (add_any A n cb xs s p g' c' lo lk ⟨6, u, k, 0, x, false⟩ (wr.alloc (.cells #[.int .i64 y, .int .i64 x] 65)) ((hr3.below (AL.mono (by omega))).more (by omega)) hn him hlk hb3 ho3 hpl (by omega)).mono ?_
        rintro e w3 ⟨rfl, hL3⟩
        have HL3 : Hid (RetL w2 lo p A n cb s g1 l0 (addC xs s lk ⟨6, u, k, 0, x, false⟩) w3) := RetL.next G' at' old' HPk.out (by omega) (by omega) (hL3.after AL)
        clear hL3
        go_wp2_with fail
        go_roundw
        case rel => exact ⟨k + 1, by omega, by go_num, by rw [HT.out, HS.out]; exact HL3.out⟩
        case measure => simp [intOf]; omega
      · obtain rfl : k = (shotsL xs).length := by omega
        go_wp2_with fail
        go_end0
        rw [HE.out]
        exact ⟨rfl, RetL.next HG12.out HAT.out HO2.out HPr.out (by omega) (by omega) hR⟩

end Go.Proofs.Ytpnnbenehajipaa
