/- Claims (chapter 6): the program's side: ClaimsIn. -/
import Derived.Test.YtpnnbenehajipaaCml
namespace Go.Proofs.Ytpnnbenehajipaa
open Go.RowKit

theorem ins_c3 (xs : List Int) (h : Hd) : insC xs h.size 4 (c2C xs h) = c3C xs h := by
  have e1 : ∀ l : List Cm, insStep xs h.size 4 l ⟨1, 0, 0, 0, 0, true⟩ = l := fun l => by simp [insStep, kindIn]
  have e2 : ∀ (l : List Cm) (b : Bool), insStep xs h.size 4 l ⟨2, 0, 0, 0, h.first, b⟩ = l := fun l b => by simp [insStep, kindIn]
  have e3 : ∀ (l : List Cm) (b : Bool), insStep xs h.size 4 l ⟨3, 0, 0, 0, h.refs, b⟩ = if b = true then tabC xs h.size l 4 h.refs.toNat 0 0 else l := fun l b => by
    cases b <;> simp [insStep, kindIn, baseIn, stepIn]
  show List.foldl (insStep xs h.size 4) (c2C xs h) [⟨1, 0, 0, 0, 0, true⟩, ⟨2, 0, 0, 0, h.first, _⟩, ⟨3, 0, 0, 0, h.refs, goodB xs h.size (c1C xs h) ⟨3, 0, 0, 0, h.refs, false⟩⟩] = _
  rw [List.foldl_cons, List.foldl_cons, List.foldl_cons, List.foldl_nil, e1, e2, e3]
  rfl
theorem kindIn7 (k : Int) : kindIn k = 7 ↔ (k = 2 ∨ k = 6) := by
  unfold kindIn
  split
  · omega
  · split
    · omega
    · split <;> omega
theorem kindIn8 (k : Int) : kindIn k = 8 ↔ k = 7 := by
  unfold kindIn
  split
  · omega
  · split
    · omega
    · split <;> omega
theorem ins_firsts (xs : List Int) (h : Hd) : ∀ (ys acc : List Cm), ys.foldl (insStep xs h.size 7) acc = (firstsC ys).foldl (secStep xs h) acc
  | [], _ => rfl
  | c :: ys, acc => by
    rw [List.foldl_cons, ins_firsts xs h ys]
    by_cases hc : c.good = true ∧ (c.kind = 2 ∨ c.kind = 6)
    · have e : firstsC (c :: ys) = c.target :: firstsC ys := by
        unfold firstsC
        rw [List.filter_cons_of_pos (by simp [hc.1, hc.2])]
        rfl
      rw [e, List.foldl_cons]
      have e2 : insStep xs h.size 7 acc c = secStep xs h acc c.target := by
        unfold insStep secStep
        rw [if_pos ⟨hc.1, (kindIn7 _).2 hc.2⟩]
        rfl
      rw [e2]
    · have e : firstsC (c :: ys) = firstsC ys := by
        unfold firstsC
        rw [List.filter_cons_of_neg (by simpa using hc)]
      have e2 : insStep xs h.size 7 acc c = acc := by
        unfold insStep
        rw [if_neg (fun hh => hc ⟨hh.1, (kindIn7 _).1 hh.2⟩)]
      rw [e, e2]
theorem ins_c5 (xs : List Int) (h : Hd) : insC xs h.size 7 (c4C xs h) = c5C xs h := ins_firsts xs h _ _
theorem ins_c6 (xs : List Int) (h : Hd) : insC xs h.size 8 (c5C xs h) = c6C xs h := by
  have e : insStep xs h.size 8 = datStep xs h := by
    funext l c
    unfold insStep datStep
    by_cases hc : c.kind = 7 ∧ c.good = true
    · rw [if_pos hc, if_pos ⟨hc.2, (kindIn8 _).2 hc.1⟩]
      rfl
    · rw [if_neg hc, if_neg (fun hh => hc ⟨(kindIn8 _).1 hh.2, hh.1⟩)]
  unfold insC c6C
  rw [e]
theorem c4_shots (xs : List Int) (h : Hd) : c4C xs h = if h.many = 0 then c3C xs h else shotsP xs h (c3C xs h) := rfl

set_option maxRecDepth 100000 in
set_option maxHeartbeats 8000000 in
theorem implClaims_any : ClaimsC := by
  intro A n c xs w hr hn hnc
  go_enter Try.func34, Try.ntmps34
  go_wp2_with fail
  refine (implHeadIn_any _ _ _ xs _ hr hn).mono ?_
  rintro e w1 ⟨rfl, b1⟩
  generalize hrr : headIn xs = r
  obtain ⟨⟨s, f, r, u, m⟩, is⟩ := r
  have HR := Lib.hid hrr
  clear hrr
  unfold hdV
  have b2 := b1.alloc b1.size (.cells #[.int .i64 s, .int .i64 f, .int .i64 r, .int .i64 u, .int .i64 m] 28)
  cases is
  · have HN : Hid (claimsL xs = []) := by unfold claimsL; rw [(headIn_false HR.out).1]; exact rfl
    go_wp2_with fail
    go_ret
    rw [HN.out]
    exact ⟨none, 0, rfl, OwR.nil _ _ _ _ _, b2⟩
  · have HN : Hid (claimsL xs = c6C xs (headOf xs)) := by unfold claimsL; rw [(headIn_true HR.out).1]; exact rfl
    obtain ⟨hh, hd⟩ := headIn_true HR.out
    have HH := Lib.hid hh
    have HI := Lib.hid (hasHead_img hh)
    rw [hd] at HN
    clear HR hd hh
    go_wp2_with fail
    have b3 := (b2.alloc b2.size (.cells #[.slice A n c, .int .i64 s, .slice (some ⟨w1.heap.size + 1 + 1, 0, none⟩) 1 1] 72))
    have b4 := b3.alloc b3.size (.cells #[.int .i64 1, .int .i64 0, .int .i64 0, .int .i64 0, .int .i64 0, .bool true] 43)
    have hz1 : (w1.alloc (.cells #[.int .i64 s, .int .i64 f, .int .i64 r, .int .i64 u, .int .i64 m] 28)).heap.size = w1.heap.size + 1 := by simp
    have hz2 : ((w1.alloc (.cells #[.int .i64 s, .int .i64 f, .int .i64 r, .int .i64 u, .int .i64 m] 28)).alloc (.cells #[.slice A n c, .int .i64 s, .slice (some ⟨w1.heap.size + 1 + 1, 0, none⟩) 1 1] 72)).heap.size = w1.heap.size + 1 + 1 := by simp
    have hz3 : (((w1.alloc (.cells #[.int .i64 s, .int .i64 f, .int .i64 r, .int .i64 u, .int .i64 m] 28)).alloc (.cells #[.slice A n c, .int .i64 s, .slice (some ⟨w1.heap.size + 1 + 1, 0, none⟩) 1 1] 72)).alloc (.cells #[.int .i64 1, .int .i64 0, .int .i64 0, .int .i64 0, .int .i64 0, .bool true] 43)).heap.size = w1.heap.size + 1 + 1 + 1 := by simp
    have hb3 : LBox (((w1.alloc (.cells #[.int .i64 s, .int .i64 f, .int .i64 r, .int .i64 u, .int .i64 m] 28)).alloc (.cells #[.slice A n c, .int .i64 s, .slice (some ⟨w1.heap.size + 1 + 1, 0, none⟩) 1 1] 72)).alloc (.cells #[.int .i64 1, .int .i64 0, .int .i64 0, .int .i64 0, .int .i64 0, .bool true] 43)) (w1.heap.size + 1) A n c s (w1.heap.size + 1 + 1) ([⟨1, 0, 0, 0, 0, true⟩] : List Cm).length 1 := by
      refine (Below.heap_alloc _ _ _ (by omega)).trans ?_
      have := heap_alloc_new (w1.alloc (.cells #[.int .i64 s, .int .i64 f, .int .i64 r, .int .i64 u, .int .i64 m] 28)) (.cells #[.slice A n c, .int .i64 s, .slice (some ⟨w1.heap.size + 1 + 1, 0, none⟩) 1 1] 72)
      rw [hz1] at this
      exact this
    have o3 := madeV 43 6 ((w1.alloc (.cells #[.int .i64 s, .int .i64 f, .int .i64 r, .int .i64 u, .int .i64 m] 28)).alloc (.cells #[.slice A n c, .int .i64 s, .slice (some ⟨w1.heap.size + 1 + 1, 0, none⟩) 1 1] 72)) #[.int .i64 1, .int .i64 0, .int .i64 0, .int .i64 0, .int .i64 0, .bool true] 1 (w1.heap.size + 1 + 1) (w1.heap.size + 1 + 1 + 1) (w1.heap.size + 1 + 1) (by omega) hz2 (by omega) (by omega) (by rfl)
    have ho3 : OwV 43 6 (((w1.alloc (.cells #[.int .i64 s, .int .i64 f, .int .i64 r, .int .i64 u, .int .i64 m] 28)).alloc (.cells #[.slice A n c, .int .i64 s, .slice (some ⟨w1.heap.size + 1 + 1, 0, none⟩) 1 1] 72)).alloc (.cells #[.int .i64 1, .int .i64 0, .int .i64 0, .int .i64 0, .int .i64 0, .bool true] 43)) (w1.heap.size + 1 + 1) (((w1.alloc (.cells #[.int .i64 s, .int .i64 f, .int .i64 r, .int .i64 u, .int .i64 m] 28)).alloc (.cells #[.slice A n c, .int .i64 s, .slice (some ⟨w1.heap.size + 1 + 1, 0, none⟩) 1 1] 72)).alloc (.cells #[.int .i64 1, .int .i64 0, .int .i64 0, .int .i64 0, .int .i64 0, .bool true] 43)).heap.size (w1.heap.size + 1 + 1) ([⟨1, 0, 0, 0, 0, true⟩] : List Cm).length 1 (([⟨1, 0, 0, 0, 0, true⟩] : List Cm).flatMap cmV) := by
      rw [hz3]
      simpa [cmV] using o3
    have hbx : ∀ j : Nat, (((w1.alloc (.cells #[.int .i64 s, .int .i64 f, .int .i64 r, .int .i64 u, .int .i64 m] 28)).alloc (.cells #[.slice A n c, .int .i64 s, .slice (some ⟨w1.heap.size + 1 + 1, 0, none⟩) 1 1] 72)).alloc (.cells #[.int .i64 1, .int .i64 0, .int .i64 0, .int .i64 0, .int .i64 0, .bool true] 43)).cell? ⟨w1.heap.size, j, none⟩ = (#[.int .i64 s, .int .i64 f, .int .i64 r, .int .i64 u, .int .i64 m] : Array Value)[j]? := fun j => by
      rw [World.cell?_alloc_lt _ _ _ (by show w1.heap.size < _; omega), World.cell?_alloc_lt _ _ _ (by show w1.heap.size < _; omega), World.cell?_alloc_new]
    have hr3 := hr.below b4
    have HB4 := Lib.hid b4
    have hb1 := b1.size
    clear o3 b2 b3 b4 b1 hr hz1 hz2
    generalize (((w1.alloc (.cells #[.int .i64 s, .int .i64 f, .int .i64 r, .int .i64 u, .int .i64 m] 28)).alloc (.cells #[.slice A n c, .int .i64 s, .slice (some ⟨w1.heap.size + 1 + 1, 0, none⟩) 1 1] 72)).alloc (.cells #[.int .i64 1, .int .i64 0, .int .i64 0, .int .i64 0, .int .i64 0, .bool true] 43)) = w3 at *
    have HZ := Lib.hid hz3
    have hz3' : w1.heap.size + 1 + 1 + 1 ≤ w3.heap.size := by omega
    clear hz3
    have HBX := Lib.hid hbx
    clear hbx
    have HRF : Hid (RetL w3 (w1.heap.size + 1 + 1) (w1.heap.size + 1) A n c s (w1.heap.size + 1 + 1) [⟨1, 0, 0, 0, 0, true⟩] [⟨1, 0, 0, 0, 0, true⟩] w3) := RetL.refl hb3 ho3
    -- what stands in the frame stays
    have keepB : Hid (∀ (l : List Cm) (wk : World), RetL w3 (w1.heap.size + 1 + 1) (w1.heap.size + 1) A n c s (w1.heap.size + 1 + 1) [⟨1, 0, 0, 0, 0, true⟩] l wk → ∀ j : Nat, wk.cell? ⟨w1.heap.size, j, none⟩ = (#[.int .i64 s, .int .i64 f, .int .i64 r, .int .i64 u, .int .i64 m] : Array Value)[j]?) := fun l wk hk j => by
      obtain ⟨_, _, _, _, _, G, _⟩ := hk
      exact (World.cell?_of_block (w := w3) (G.block w1.heap.size (by omega) (by omega) (by omega))).trans (HBX.out j)
    have keepR : Hid (∀ (l : List Cm) (wk : World), RetL w3 (w1.heap.size + 1 + 1) (w1.heap.size + 1) A n c s (w1.heap.size + 1 + 1) [⟨1, 0, 0, 0, 0, true⟩] l wk → Rd wk w.heap.size A n xs) := fun l wk hk => by
      obtain ⟨_, _, _, _, _, G, _⟩ := hk
      exact G.rd hr3 (by omega) (by omega) (by omega)
    have stepL : Hid (∀ (l l' : List Cm) (wk wk' : World) (g : Nat), Grow2 w3 wk (w1.heap.size + 1) (w1.heap.size + 1 + 1) → (g = w1.heap.size + 1 + 1 ∨ w3.heap.size ≤ g) → RdV 6 wk wk.heap.size (some ⟨w1.heap.size + 1 + 1, 0, none⟩) ([⟨1, 0, 0, 0, 0, true⟩] : List Cm).length (([⟨1, 0, 0, 0, 0, true⟩] : List Cm).flatMap cmV) → [⟨1, 0, 0, 0, 0, true⟩] <+: l → RetL wk (w1.heap.size + 1 + 1) (w1.heap.size + 1) A n c s g l l' wk' → RetL w3 (w1.heap.size + 1 + 1) (w1.heap.size + 1) A n c s (w1.heap.size + 1 + 1) [⟨1, 0, 0, 0, 0, true⟩] l' wk') := fun l l' wk wk' g h1 h2 h3 h4 h5 => RetL.next h1 h2 h3 h4 (by have := h1.size; omega) (by omega) h5
    clear hr3
    refine (add_any A n c xs s (w1.heap.size + 1) (w1.heap.size + 1 + 1) 1 (w1.heap.size + 1 + 1) [⟨1, 0, 0, 0, 0, true⟩] ⟨2, 0, 0, 0, f, false⟩ w3 ((keepR.out _ _ HRF.out).more (by omega)) hn HI.out (by simp) hb3 ho3 (by omega) (by omega)).mono ?_
    rintro e w4 ⟨rfl, hL4⟩
    clear hb3 ho3
    have HL4 : Hid (RetL w3 (w1.heap.size + 1 + 1) (w1.heap.size + 1) A n c s (w1.heap.size + 1 + 1) [⟨1, 0, 0, 0, 0, true⟩] (c1C xs ⟨s, f, r, u, m⟩) w4) := hL4
    clear hL4
    have hP1 : Hid ([⟨1, 0, 0, 0, 0, true⟩] <+: c1C xs ⟨s, f, r, u, m⟩) := List.prefix_append _ _
    have hl1 : (c1C xs ⟨s, f, r, u, m⟩).length = 2 := by simp [c1C, addC]
    have q2 : w4.cell? ⟨w1.heap.size, 2, none⟩ = some (.int .i64 r) := keepB.out _ _ HL4.out 2
    go_wp2_with fail
    obtain ⟨g4, c4, hb4, ho4, at4, G4, old4⟩ := HL4.out
    have s4 := G4.size
    refine (add_any A n c xs s (w1.heap.size + 1) g4 c4 (w1.heap.size + 1 + 1) (c1C xs ⟨s, f, r, u, m⟩) ⟨3, 0, 0, 0, r, false⟩ w4 ((keepR.out _ _ HL4.out).more (by omega)) hn HI.out (by omega) hb4 ho4 (by omega) (by omega)).mono ?_
    rintro e w5 ⟨rfl, hL5⟩
    have HL5 : Hid (RetL w3 (w1.heap.size + 1 + 1) (w1.heap.size + 1) A n c s (w1.heap.size + 1 + 1) [⟨1, 0, 0, 0, 0, true⟩] (c2C xs ⟨s, f, r, u, m⟩) w5) := stepL.out _ _ _ _ _ G4 at4 old4 hP1.out hL5
    have hP2 : Hid ([⟨1, 0, 0, 0, 0, true⟩] <+: c2C xs ⟨s, f, r, u, m⟩) := hP1.out.trans (List.prefix_append _ _)
    have hl2 : (c2C xs ⟨s, f, r, u, m⟩).length = 3 := by simp [c2C, c1C, addC]
    clear hL5 HL4 hb4 ho4 at4 G4 old4 hP1 hl1 q2 s4
    go_wp2_with fail
    obtain ⟨g5, c5, hb5, ho5, at5, G5, old5⟩ := HL5.out
    have s5 := G5.size
    refine (addInside_any A n c w.heap.size xs s 4 (w1.heap.size + 1) g5 c5 (w1.heap.size + 1 + 1) (c2C xs ⟨s, f, r, u, m⟩) w5 (keepR.out _ _ HL5.out) hn hnc HH.out (by omega) hb5 ho5 (by omega) (by omega) (by omega) ok_c2 (by omega)).mono ?_
    rintro e w6 ⟨rfl, hL6⟩
    have HL6 : Hid (RetL w3 (w1.heap.size + 1 + 1) (w1.heap.size + 1) A n c s (w1.heap.size + 1 + 1) [⟨1, 0, 0, 0, 0, true⟩] (c3C xs ⟨s, f, r, u, m⟩) w6) := by
      rw [← ins_c3]
      exact stepL.out _ _ _ _ _ G5 at5 old5 hP2.out hL6
    have hP3 : Hid ([⟨1, 0, 0, 0, 0, true⟩] <+: c3C xs ⟨s, f, r, u, m⟩) := by
      rw [← ins_c3]
      exact hP2.out.trans (foldl_prefix _ insStep_prefix _ _)
    have hl3 := c3_length (xs := xs) (h := ⟨s, f, r, u, m⟩)
    clear hL6 HL5 hb5 ho5 at5 G5 old5 hP2 hl2 s5
    have q4 : w6.cell? ⟨w1.heap.size, 4, none⟩ = some (.int .i64 m) := keepB.out _ _ HL6.out 4
    have q3 : w6.cell? ⟨w1.heap.size, 3, none⟩ = some (.int .i64 u) := keepB.out _ _ HL6.out 3
    by_cases hm : m = 0
    case' pos =>
      have hdm : (m != 0) = false := by simpa using hm
      have HL7 : Hid (RetL w3 (w1.heap.size + 1 + 1) (w1.heap.size + 1) A n c s (w1.heap.size + 1 + 1) [⟨1, 0, 0, 0, 0, true⟩] (c4C xs ⟨s, f, r, u, m⟩) w6) := by
        rw [c4_shots, if_pos hm]
        exact HL6.out
      have hP4 : Hid ([⟨1, 0, 0, 0, 0, true⟩] <+: c4C xs ⟨s, f, r, u, m⟩) := by
        rw [c4_shots, if_pos hm]
        exact hP3.out
      clear hm
      go_wp2_with fail
      obtain ⟨w7, rfl⟩ : ∃ x, x = w6 := ⟨_, rfl⟩
    case' neg =>
      have hdm : (m != 0) = true := by simpa using hm
      have HM := Lib.hid hm
      clear hm
      go_wp2_with fail
      obtain ⟨g6, c6, hb6, ho6, at6, G6, old6⟩ := HL6.out
      have s6 := G6.size
      refine (addShots_any A n c w.heap.size xs ⟨s, f, r, u, m⟩ (w1.heap.size + 1) g6 c6 (w1.heap.size + 1 + 1) (c3C xs ⟨s, f, r, u, m⟩) w6 (keepR.out _ _ HL6.out) hn hnc HI.out (by omega) hb6 ho6 (by omega) (by omega) (by omega)).mono ?_
      rintro e w7 ⟨rfl, hL7⟩
      have HL7 : Hid (RetL w3 (w1.heap.size + 1 + 1) (w1.heap.size + 1) A n c s (w1.heap.size + 1 + 1) [⟨1, 0, 0, 0, 0, true⟩] (c4C xs ⟨s, f, r, u, m⟩) w7) := by
        rw [c4_shots, if_neg HM.out]
        exact stepL.out _ _ _ _ _ G6 at6 old6 hP3.out hL7
      have hP4 : Hid ([⟨1, 0, 0, 0, 0, true⟩] <+: c4C xs ⟨s, f, r, u, m⟩) := by
        rw [c4_shots, if_neg HM.out]
        unfold shotsP
        split
        · exact (hP3.out.trans (List.prefix_append _ _)).trans (shotFold_prefix _ _ _ _)
        · exact hP3.out.trans (List.prefix_append _ _)
      clear hL7 hb6 ho6 at6 G6 old6 s6 HM
      go_wp2_with fail
    all_goals
      clear HL6 hP3 hl3 q3 q4 hdm
      have hl4 := c4_length (xs := xs) (h := ⟨s, f, r, u, m⟩)
      obtain ⟨g7, c7, hb7, ho7, at7, G7, old7⟩ := HL7.out
      have s7 := G7.size
      refine (addInside_any A n c w.heap.size xs s 7 (w1.heap.size + 1) g7 c7 (w1.heap.size + 1 + 1) (c4C xs ⟨s, f, r, u, m⟩) w7 (keepR.out _ _ HL7.out) hn hnc HH.out (by omega) hb7 ho7 (by omega) (by omega) (by omega) ok_c4 (by omega)).mono ?_
      rintro e w8 ⟨rfl, hL8⟩
      have HL8 : Hid (RetL w3 (w1.heap.size + 1 + 1) (w1.heap.size + 1) A n c s (w1.heap.size + 1 + 1) [⟨1, 0, 0, 0, 0, true⟩] (c5C xs ⟨s, f, r, u, m⟩) w8) := by
        rw [← ins_c5]
        exact stepL.out _ _ _ _ _ G7 at7 old7 hP4.out hL8
      have hP5 : Hid ([⟨1, 0, 0, 0, 0, true⟩] <+: c5C xs ⟨s, f, r, u, m⟩) := by
        rw [← ins_c5]
        exact hP4.out.trans (foldl_prefix _ insStep_prefix _ _)
      clear hL8 hb7 ho7 at7 G7 old7 s7 HL7 hP4 hl4
      have hl5 := c5_length (xs := xs) (h := ⟨s, f, r, u, m⟩)
      go_wp2_with fail
      obtain ⟨g8, c8, hb8, ho8, at8, G8, old8⟩ := HL8.out
      have s8 := G8.size
      refine (addInside_any A n c w.heap.size xs s 8 (w1.heap.size + 1) g8 c8 (w1.heap.size + 1 + 1) (c5C xs ⟨s, f, r, u, m⟩) w8 (keepR.out _ _ HL8.out) hn hnc HH.out (by omega) hb8 ho8 (by omega) (by omega) (by omega) ok_c5 (by omega)).mono ?_
      rintro e w9 ⟨rfl, hL9⟩
      have HL9 : Hid (RetL w3 (w1.heap.size + 1 + 1) (w1.heap.size + 1) A n c s (w1.heap.size + 1 + 1) [⟨1, 0, 0, 0, 0, true⟩] (c6C xs ⟨s, f, r, u, m⟩) w9) := by
        rw [← ins_c6]
        exact stepL.out _ _ _ _ _ G8 at8 old8 hP5.out hL9
      clear hL9 hb8 ho8 at8 G8 old8 s8 HL8 hP5 hl5
      obtain ⟨g9, c9, hb9, ho9, at9, G9, old9⟩ := HL9.out
      have p9 : w9.cell? ⟨w1.heap.size + 1, 2, none⟩ = some (.slice (some ⟨g9, 0, none⟩) (c6C xs ⟨s, f, r, u, m⟩).length c9) := hb9.cell 2
      have HG9 := Lib.hid G9
      have HO9 := Lib.hid ho9
      clear hb9 ho9 at9 G9 old9 HL9
      go_wp2_with fail
      go_ret
      rw [HN.out]
      exact ⟨some ⟨g9, 0, none⟩, c9, rfl, (HO9.out.toR).more (by omega) (Nat.le_refl _), Grow2.toBelow HB4.out HG9.out (by omega) (by omega)⟩

end Go.Proofs.Ytpnnbenehajipaa
