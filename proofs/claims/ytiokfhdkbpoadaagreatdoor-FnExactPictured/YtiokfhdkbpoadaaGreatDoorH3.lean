/- Counting anew: what is counted is stored, and no claim is loose: plain mathematics. Counting anew, step by step: plain mathematics. What is counted anew is stored as it is counted: plain mathematics. Flagging anew: the claims and what is stored stay, and no word is wrong: plain mathematics. -/
import Derived.Test.YtiokfhdkbpoadaaGreatDoorH2
import Derived.Test.YtiokfhdkbpoadaaGreatDoorY2
import Derived.Test.YtiokfhdkbpoadaaGreatDoorG4
namespace Go.Proofs.YtiokfhdkbpoadaaGreatDoor
open Go.RowKit

theorem filterMap_ext {α β : Type} {f g : α → Option β} : ∀ {l : List α}, (∀ a ∈ l, f a = g a) → l.filterMap f = l.filterMap g
  | [], _ => rfl
  | a :: l, h => by
    have h1 := h a (by simp)
    have h2 := filterMap_ext (f := f) (g := g) (l := l) (fun x hx => h x (by simp [hx]))
    cases hf : f a with
    | none => rw [List.filterMap_cons_none hf, List.filterMap_cons_none (h1 ▸ hf), h2]
    | some v => rw [List.filterMap_cons_some hf, List.filterMap_cons_some (h1 ▸ hf), h2]
theorem flatMap_ext {α β : Type} {f g : α → List β} : ∀ {l : List α}, (∀ a ∈ l, f a = g a) → l.flatMap f = l.flatMap g
  | [], _ => rfl
  | a :: l, h => by rw [List.flatMap_cons, List.flatMap_cons, h a (by simp), flatMap_ext (fun x hx => h x (by simp [hx]))]
theorem tabT_congr {x b : List Int} {t : Nat} {kind place step : Int} (h : ∀ i, i < 8 → targetOf ((cl x t).getD i 0) = targetOf ((cl b t).getD i 0)) : tabT x kind t place step = tabT b kind t place step := by
  unfold tabT
  refine filterMap_ext (fun i hi => ?_)
  unfold tabF
  rw [h i (by simpa using hi)]
/-- Behind Refs and its blocks the same is claimed. -/
theorem body_congr {b x : List Int} {h h' : Hd} (hf : h'.first = h.first) (hs : h'.shots = h.shots) (hm : h'.many = h.many) (hS : h.many ≠ 0 → shotsL x = shotsL b)
    (hF : ∀ f ∈ rFst b h, ∀ i, i < 8 → targetOf ((cl x f.toNat).getD i 0) = targetOf ((cl b f.toNat).getD i 0)) (hD : ∀ c ∈ rSec b h, ∀ i, i < 8 → targetOf ((cl x c.target.toNat).getD i 0) = targetOf ((cl b c.target.toNat).getD i 0)) :
    rSh x h' = rSh b h ∧ rFst x h' = rFst b h ∧ rSec x h' = rSec b h ∧ rDat x h' = rDat b h := by
  have e1 : rSh x h' = rSh b h := by
    unfold rSh shotT
    rw [hm, hs]
    by_cases h0 : h.many = 0
    · rw [if_pos h0, if_pos h0]
    · rw [if_neg h0, if_neg h0, hS h0]
  have e2 : rFst x h' = rFst b h := by
    unfold rFst
    rw [hm, hf]
    by_cases h0 : h.many = 0
    · rw [if_pos h0, if_pos h0]
    · rw [if_neg h0, if_neg h0, hS h0]
  have e3 : rSec x h' = rSec b h := by
    unfold rSec
    rw [e2]
    exact flatMap_ext (fun f hf => tabT_congr (hF f hf))
  have e4 : rDat x h' = rDat b h := by
    unfold rDat
    rw [e3]
    exact flatMap_ext (fun c hc => tabT_congr (hD c hc))
  exact ⟨e1, e2, e3, e4⟩
theorem rFst_mem {xs : List Int} {h : Hd} {f : Int} (hf : f ∈ rFst xs h) : ∃ c ∈ rawC xs h, c.good = true ∧ (c.kind = 2 ∨ c.kind = 6) ∧ c.target = f := by
  rw [← r4_firsts] at hf
  unfold firstsC at hf
  rw [List.mem_map] at hf
  obtain ⟨c, hc, rfl⟩ := hf
  rw [List.mem_filter] at hc
  simp at hc
  exact ⟨c, by unfold rawC; simp [hc.1], hc.2.1, hc.2.2, rfl⟩
theorem raw_sec {xs : List Int} {h : Hd} {c : Cm} (hc : c ∈ rSec xs h) : c ∈ rawC xs h := by unfold rawC; simp [hc]
theorem raw_blk {xs : List Int} {h : Hd} {c : Cm} (hc : c ∈ rBlk xs h) : c ∈ rawC xs h := by unfold rawC r4C; simp [hc]
theorem raw_sh {xs : List Int} {h : Hd} {c : Cm} (hc : c ∈ rSh xs h) : c ∈ rawC xs h := by unfold rawC r4C; simp [hc]
theorem raw_r1 {xs : List Int} {h : Hd} {c : Cm} (hc : c ∈ r1C h) : c ∈ rawC xs h := by unfold rawC r4C; simp [hc]

/-- An image with a head that is neat. -/
structure Tidy (b : List Int) : Prop where
  head : hasHead b = true
  neat : Neat b (headOf b)
theorem Tidy.claims {b : List Int} (T : Tidy b) : claimsC b = rawC b (headOf b) := neat_claims T.neat
theorem Tidy.one {b : List Int} (T : Tidy b) {x y : Cm} (hx : x ∈ rawC b (headOf b)) (hy : y ∈ rawC b (headOf b)) (gx : x.good = true) (gy : y.good = true) (ht : x.target = y.target) : x.kind = y.kind ∧ (x.kind < 7 → x = y) := by
  rw [← T.claims] at hx hy
  exact good_one hx hy gx gy ht
/-- Not Refs and not a block. -/
def plainT (b : List Int) (t : Int) : Prop := ∀ c ∈ rawC b (headOf b), c.good = true → c.kind = 3 ∨ c.kind = 4 → c.target ≠ t
theorem Tidy.plain {b : List Int} (T : Tidy b) {c : Cm} (hc : c ∈ rawC b (headOf b)) (hg : c.good = true) (hk : c.kind ≠ 3 ∧ c.kind ≠ 4) : plainT b c.target := fun d hd gd kd e => by
  have := (T.one hd hc gd hg e).1
  omega
theorem Tidy.there {b : List Int} (T : Tidy b) {c : Cm} (hc : c ∈ rawC b (headOf b)) (hg : c.good = true) (hk : c.kind ≠ 1) : 1 ≤ c.target ∧ c.target < manyN b := there_lt (T.neat.ok c hc hg hk).1
/-- x is b but for Refs, its blocks and what lies behind. -/
structure Beside (b x : List Int) : Prop where
  head : hasHead x = true
  size : (headOf x).size = (headOf b).size
  first : (headOf x).first = (headOf b).first
  shots : (headOf x).shots = (headOf b).shots
  many : (headOf x).many = (headOf b).many
  more : manyN b ≤ manyN x
  same : ∀ t : Nat, 1 ≤ t → t < manyN b → plainT b t → cl x t = cl b t
theorem Beside.body {b x : List Int} (T : Tidy b) (S : Beside b x) : rSh x (headOf x) = rSh b (headOf b) ∧ rFst x (headOf x) = rFst b (headOf b) ∧ rSec x (headOf x) = rSec b (headOf b) ∧ rDat x (headOf x) = rDat b (headOf b) ∧ ((headOf b).many ≠ 0 → shotsL x = shotsL b) := by
  have key : ∀ c ∈ rawC b (headOf b), c.good = true → c.kind ≠ 1 → c.kind ≠ 3 ∧ c.kind ≠ 4 → cl x c.target.toNat = cl b c.target.toNat := by
    intro c hc hg hk1 hk
    have ht := T.there hc hg hk1
    refine S.same c.target.toNat (by omega) (by omega) ?_
    rw [Int.toNat_of_nonneg (by omega)]
    exact T.plain hc hg hk
  have hSh : (headOf b).many ≠ 0 → shotsL x = shotsL b := by
    intro h0
    have hm : (⟨5, 0, 0, 0, (headOf b).shots, true⟩ : Cm) ∈ rawC b (headOf b) := raw_sh (by unfold rSh; rw [if_neg h0]; simp)
    have ht := T.neat.ok _ hm rfl (by simp)
    have htl := there_lt ht.1
    simp only at ht htl
    have hth : thereB x (headOf x).shots = true := by
      rw [S.shots]
      have := S.more
      exact inB_true.2 (by omega)
    rw [shotsL_some (headIn_yes T.head) ht.1, shotsL_some (headIn_yes S.head) hth, S.shots, S.many, key _ hm rfl (by simp) (by simp)]
  obtain ⟨h1, h2, h3, h4⟩ := body_congr (b := b) (x := x) S.first S.shots S.many hSh (fun f hf i _ => by
    obtain ⟨c, hc, hg, hk, rfl⟩ := rFst_mem hf
    rw [key c hc hg (by omega) (by omega)]) (fun c hc i _ => by
    have hk := rSec_kind hc
    rw [key c (raw_sec hc) hk.2 (by omega) (by omega)])
  exact ⟨h1, h2, h3, h4, hSh⟩

theorem pairwise_insert {R : Cm → Cm → Prop} {A B : List Cm} {n : Cm} (h : (A ++ B).Pairwise R) (h1 : ∀ y ∈ A, R y n) (h2 : ∀ y ∈ B, R n y) : (A ++ n :: B).Pairwise R := by
  rw [List.pairwise_append] at h ⊢
  refine ⟨h.1, List.pairwise_cons.2 ⟨h2, h.2.1⟩, fun x hx y hy => ?_⟩
  rw [List.mem_cons] at hy
  rcases hy with rfl | hy
  · exact h1 x hx
  · exact h.2.2 x hx y hy
theorem bars_apart {x c : Cm} (h : x.target ≠ c.target) : barsB x c = false := by unfold barsB; rw [if_neg (fun e => h e.2)]
theorem there_more {b x : List Int} (h : manyN b ≤ manyN x) {t : Int} (ht : thereB b t = true) : thereB x t = true := by
  have := there_lt ht
  exact inB_true.2 (by omega)
/-- A good claim of b leads ahead of what is new. -/
theorem Tidy.below {b : List Int} (T : Tidy b) {c : Cm} (hc : c ∈ rawC b (headOf b)) (hm : 0 < manyN b) : c.target ≠ (manyN b : Int) := by
  intro e
  rcases neat_all T.neat c (by rw [neat_claims T.neat]; exact hc) with h | h
  · by_cases hk : c.kind = 1
    · have : c = ⟨1, 0, 0, 0, 0, true⟩ := by
        unfold rawC r4C at hc
        rw [List.mem_append, List.mem_append, List.mem_append, List.mem_append] at hc
        rcases hc with (((hc | hc) | hc) | hc) | hc
        · unfold r1C at hc
          simp at hc
          rcases hc with rfl | rfl | rfl
          · rfl
          · cases hk
          · cases hk
        · have := rBlk_kind hc; omega
        · have := rSh_kind hc; omega
        · have := rSec_kind hc; omega
        · have := rDat_kind hc; omega
      rw [this] at e
      simp only at e
      omega
    · have := T.there hc h hk; omega
  · rw [h.2] at e; omega
/-- Refs is made where there was none. -/
theorem tidy_refs {b x : List Int} (T : Tidy b) (S : Beside b x) (h0 : (headOf b).refs = 0) (hr : (headOf x).refs = (manyN b : Int)) (hmx : manyN x = manyN b + 1) (hz : ∀ i, i < 8 → (cl x (manyN b)).getD i 0 = 0) :
    Tidy x ∧ rawC x (headOf x) = [⟨1, 0, 0, 0, 0, true⟩, ⟨2, 0, 0, 0, (headOf b).first, decide ((headOf b).first ≠ 0)⟩] ++ ⟨3, 0, 0, 0, (manyN b : Int), true⟩ :: (rSh b (headOf b) ++ rSec b (headOf b) ++ rDat b (headOf b)) := by
  obtain ⟨e1, e2, e3, e4, _⟩ := S.body T
  have hp := whole_pos T.head
  have eb : rBlk x (headOf x) = [] := by
    unfold rBlk
    split
    · rw [hr, Int.toNat_natCast]
      unfold tabT
      rw [List.filterMap_eq_nil_iff]
      intro i hi
      unfold tabF
      rw [hz i (by simpa using hi), if_neg (by decide)]
    · rfl
  have ebb : rBlk b (headOf b) = [] := by unfold rBlk; rw [if_neg (by simp [h0])]
  have er : rawC x (headOf x) = [⟨1, 0, 0, 0, 0, true⟩, ⟨2, 0, 0, 0, (headOf b).first, decide ((headOf b).first ≠ 0)⟩] ++ ⟨3, 0, 0, 0, (manyN b : Int), true⟩ :: (rSh b (headOf b) ++ rSec b (headOf b) ++ rDat b (headOf b)) := by
    unfold rawC r4C r1C
    rw [e1, e3, e4, eb, S.first, hr]
    have : decide ((manyN b : Int) ≠ 0) = true := by simp; omega
    rw [this]
    simp
  have eo : rawC b (headOf b) = [⟨1, 0, 0, 0, 0, true⟩, ⟨2, 0, 0, 0, (headOf b).first, decide ((headOf b).first ≠ 0)⟩] ++ ⟨3, 0, 0, 0, 0, false⟩ :: (rSh b (headOf b) ++ rSec b (headOf b) ++ rDat b (headOf b)) := by
    unfold rawC r4C r1C
    rw [ebb, h0]
    simp
  have hbelow : ∀ c ∈ rawC b (headOf b), c.target ≠ (manyN b : Int) := fun c hc => T.below hc hp
  generalize ([⟨1, 0, 0, 0, 0, true⟩, ⟨2, 0, 0, 0, (headOf b).first, decide ((headOf b).first ≠ 0)⟩] : List Cm) = A at er eo ⊢
  generalize rSh b (headOf b) ++ rSec b (headOf b) ++ rDat b (headOf b) = B at er eo ⊢
  refine ⟨⟨S.head, ⟨fun c hc hg hk => ?_, ?_⟩⟩, er⟩
  · rw [er, List.mem_append, List.mem_cons] at hc
    have old : c ∈ rawC b (headOf b) → thereB x c.target = true ∧ c.place < (headOf x).size := fun h => by
      have := T.neat.ok c h hg hk
      exact ⟨there_more S.more this.1, by rw [S.size]; exact this.2⟩
    rcases hc with hc | rfl | hc
    · exact old (by rw [eo]; simp [hc])
    · refine ⟨inB_true.2 (by simp only; omega), ?_⟩
      have := (headB_all (hasHead_ok S.head)).1
      simp only
      omega
    · exact old (by rw [eo]; simp [hc])
  · rw [er]
    have hf := T.neat.free
    rw [eo] at hf hbelow
    refine pairwise_insert ?_ (fun y hy => .inl (bars_apart (hbelow y (by simp [hy])))) (fun y hy => .inl (bars_apart (Ne.symm (hbelow y (by simp [hy])))))
    exact hf.sublist (List.Sublist.append (List.Sublist.refl _) (List.sublist_cons_self _ _))
/-- One block is made where there was none. -/
theorem tidy_block {b x : List Int} (T : Tidy b) (S : Beside b x) (h0 : (headOf b).refs ≠ 0) (hr : (headOf x).refs = (headOf b).refs) (hmx : manyN x = manyN b + 1) (s : Nat) (hs : s < 8) (hs0 : targetOf ((cl b (headOf b).refs.toNat).getD s 0) = 0)
    (hs1 : targetOf ((cl x (headOf b).refs.toNat).getD s 0) = (manyN b : Int)) (hw : ∀ i, i < 8 → i ≠ s → targetOf ((cl x (headOf b).refs.toNat).getD i 0) = targetOf ((cl b (headOf b).refs.toNat).getD i 0)) :
    Tidy x ∧ ∃ A B, rawC b (headOf b) = A ++ B ∧ rawC x (headOf x) = A ++ ⟨4, (headOf b).refs.toNat, s, 0, (manyN b : Int), true⟩ :: B := by
  obtain ⟨e1, e2, e3, e4, _⟩ := S.body T
  have hp := whole_pos T.head
  obtain ⟨l1, l2, hl⟩ := List.append_of_mem (List.mem_range.2 hs)
  have hnd : (l1 ++ s :: l2).Nodup := hl ▸ List.nodup_range
  have hn1 : ∀ i ∈ l1, i ≠ s := fun i hi e => by
    subst e
    rw [List.nodup_append] at hnd
    exact hnd.2.2 i hi i (by simp) rfl
  have hn2 : ∀ i ∈ l2, i ≠ s := fun i hi e => by
    subst e
    rw [List.nodup_append, List.nodup_cons] at hnd
    exact hnd.2.1.1 hi
  have hlt : ∀ i ∈ l1 ++ s :: l2, i < 8 := fun i hi => by rw [← hl] at hi; exact List.mem_range.1 hi
  have f1 : ∀ l : List Nat, (∀ i ∈ l, i < 8 ∧ i ≠ s) → l.filterMap (tabF x 4 (headOf b).refs.toNat 0 0) = l.filterMap (tabF b 4 (headOf b).refs.toNat 0 0) := by
    intro l h
    refine filterMap_ext (fun i hi => ?_)
    unfold tabF
    rw [hw i (h i hi).1 (h i hi).2]
  have eb : rBlk b (headOf b) = l1.filterMap (tabF b 4 (headOf b).refs.toNat 0 0) ++ l2.filterMap (tabF b 4 (headOf b).refs.toNat 0 0) := by
    unfold rBlk tabT
    rw [if_pos h0, hl, List.filterMap_append, List.filterMap_cons_none (by unfold tabF; rw [hs0]; rfl)]
  have ex : rBlk x (headOf x) = l1.filterMap (tabF b 4 (headOf b).refs.toNat 0 0) ++ ⟨4, (headOf b).refs.toNat, s, 0, (manyN b : Int), true⟩ :: l2.filterMap (tabF b 4 (headOf b).refs.toNat 0 0) := by
    unfold rBlk tabT
    rw [hr, if_pos h0, hl, List.filterMap_append, List.filterMap_cons_some (b := ⟨4, (headOf b).refs.toNat, s, 0, (manyN b : Int), true⟩) (by unfold tabF; rw [hs1, if_pos (by omega)]; simp),
      f1 l1 (fun i hi => ⟨hlt i (by simp [hi]), hn1 i hi⟩), f1 l2 (fun i hi => ⟨hlt i (by simp [hi]), hn2 i hi⟩)]
  have h1 : r1C (headOf x) = r1C (headOf b) := by unfold r1C; rw [S.first, hr]
  have eo : rawC b (headOf b) = (r1C (headOf b) ++ l1.filterMap (tabF b 4 (headOf b).refs.toNat 0 0)) ++ (l2.filterMap (tabF b 4 (headOf b).refs.toNat 0 0) ++ (rSh b (headOf b) ++ rSec b (headOf b) ++ rDat b (headOf b))) := by
    unfold rawC r4C
    rw [eb]
    simp
  have er : rawC x (headOf x) = (r1C (headOf b) ++ l1.filterMap (tabF b 4 (headOf b).refs.toNat 0 0)) ++ ⟨4, (headOf b).refs.toNat, s, 0, (manyN b : Int), true⟩ :: (l2.filterMap (tabF b 4 (headOf b).refs.toNat 0 0) ++ (rSh b (headOf b) ++ rSec b (headOf b) ++ rDat b (headOf b))) := by
    unfold rawC r4C
    rw [e1, e3, e4, ex, h1]
    simp
  generalize r1C (headOf b) ++ l1.filterMap (tabF b 4 (headOf b).refs.toNat 0 0) = A at *
  generalize l2.filterMap (tabF b 4 (headOf b).refs.toNat 0 0) ++ (rSh b (headOf b) ++ rSec b (headOf b) ++ rDat b (headOf b)) = B at *
  have hbelow : ∀ c ∈ rawC b (headOf b), c.target ≠ (manyN b : Int) := fun c hc => T.below hc hp
  refine ⟨⟨S.head, ⟨fun c hc hg hk => ?_, ?_⟩⟩, A, B, eo, er⟩
  · rw [er, List.mem_append, List.mem_cons] at hc
    have old : c ∈ rawC b (headOf b) → thereB x c.target = true ∧ c.place < (headOf x).size := fun h => by
      have := T.neat.ok c h hg hk
      exact ⟨there_more S.more this.1, by rw [S.size]; exact this.2⟩
    rcases hc with hc | rfl | hc
    · exact old (by rw [eo, List.mem_append]; exact .inl hc)
    · refine ⟨inB_true.2 (by simp only; omega), ?_⟩
      have := (headB_all (hasHead_ok S.head)).1
      simp only
      omega
    · exact old (by rw [eo, List.mem_append]; exact .inr hc)
  · rw [er]
    have hf := T.neat.free
    rw [eo] at hf hbelow
    exact pairwise_insert hf (fun y hy => .inl (bars_apart (hbelow y (by simp [hy])))) (fun y hy => .inl (bars_apart (Ne.symm (hbelow y (by simp [hy])))))
/-- The same blocks: the same claims. -/
theorem tidy_same {b x : List Int} (T : Tidy b) (S : Beside b x) (hr : (headOf x).refs = (headOf b).refs) (hw : (headOf b).refs ≠ 0 → ∀ i, i < 8 → targetOf ((cl x (headOf b).refs.toNat).getD i 0) = targetOf ((cl b (headOf b).refs.toNat).getD i 0)) :
    Tidy x ∧ rawC x (headOf x) = rawC b (headOf b) := by
  obtain ⟨e1, e2, e3, e4, _⟩ := S.body T
  have eb : rBlk x (headOf x) = rBlk b (headOf b) := by
    unfold rBlk
    rw [hr]
    by_cases h0 : (headOf b).refs = 0
    · rw [if_neg (by simp [h0]), if_neg (by simp [h0])]
    · rw [if_pos h0, if_pos h0, tabT_congr (hw h0)]
  have er : rawC x (headOf x) = rawC b (headOf b) := by
    unfold rawC r4C
    rw [e1, e3, e4, eb]
    unfold r1C
    rw [S.first, hr]
  refine ⟨⟨S.head, ⟨fun c hc hg hk => ?_, by rw [er]; exact T.neat.free⟩⟩, er⟩
  rw [er] at hc
  have := T.neat.ok c hc hg hk
  exact ⟨there_more S.more this.1, by rw [S.size]; exact this.2⟩

theorem kind2_is {b : List Int} {c : Cm} (hc : c ∈ claimsC b) (hk : c.kind = 2) : c.target = (headOf b).first := by
  obtain ⟨J3, J4, J5, J6, P⟩ := claims_parts b
  rcases P.mem.1 hc with h | h | h | h | h
  · unfold c2C c1C addC at h
    simp at h
    rcases h with rfl | rfl | rfl
    · cases hk
    · rfl
    · cases hk
  · obtain ⟨d, _, h, _⟩ := P.of3 h; omega
  · rcases P.of4 h with h | h <;> omega
  · obtain ⟨d, _, h, _⟩ := P.of5 h; omega
  · obtain ⟨d, _, h, _⟩ := P.of6 h; omega
theorem kind3_is {b : List Int} {c : Cm} (hc : c ∈ claimsC b) (hk : c.kind = 3) : c.target = (headOf b).refs := by
  obtain ⟨J3, J4, J5, J6, P⟩ := claims_parts b
  rcases P.mem.1 hc with h | h | h | h | h
  · unfold c2C c1C addC at h
    simp at h
    rcases h with rfl | rfl | rfl
    · cases hk
    · cases hk
    · rfl
  · obtain ⟨d, _, h, _⟩ := P.of3 h; omega
  · rcases P.of4 h with h | h <;> omega
  · obtain ⟨d, _, h, _⟩ := P.of5 h; omega
  · obtain ⟨d, _, h, _⟩ := P.of6 h; omega
theorem ready_tidy {xs : List Int} (h : readyB xs = true) : Tidy xs ∧ (headOf xs).first ≠ 0 := by
  have hh := ready_head h
  unfold readyB at h
  rw [Bool.and_eq_true, List.all_eq_true] at h
  have hl : ∀ c ∈ claimsC xs, c.good = true ∨ (c.kind = 3 ∧ c.target = 0) := by
    intro c hc
    cases hg : c.good
    · refine .inr ?_
      have := h.2 c (by unfold looseL claimsL; rw [if_pos hh, List.mem_filter]; exact ⟨hc, by simp [hg]⟩)
      rw [headIn_yes hh] at this
      simp at this
      exact ⟨this.1, by rw [kind3_is hc this.1]; exact this.2⟩
    · exact .inl rfl
  refine ⟨⟨hh, neat_of (fun c hc => (hl c hc).imp id (fun h => ⟨.inr h.1, h.2⟩))⟩, fun h0 => ?_⟩
  have hm := c4_sub xs _ (first_claim xs)
  rcases hl _ hm with hg | hg
  · have := good_there hm hg (by simp)
    simp only at this
    rw [h0, there_zero] at this
    cases this
  · simp at hg

/-- x comes of b by making and writing Refs and blocks. -/
structure Onto (b x : List Int) : Prop where
  beside : Beside b x
  tidy : Tidy x
  plain : ∀ t : Nat, 1 ≤ t → t < manyN b → plainT b t → plainT x t
theorem Onto.trans {b x y : List Int} (h : Onto b x) (h' : Onto x y) : Onto b y := by
  have m1 := h.beside.more
  refine ⟨⟨h'.beside.head, h'.beside.size.trans h.beside.size, h'.beside.first.trans h.beside.first, h'.beside.shots.trans h.beside.shots, h'.beside.many.trans h.beside.many, Nat.le_trans h.beside.more h'.beside.more, fun t h1 h2 h3 => ?_⟩, h'.tidy, fun t h1 h2 h3 => h'.plain t h1 (by omega) (h.plain t h1 h2 h3)⟩
  rw [h'.beside.same t h1 (by omega) (h.plain t h1 h2 h3), h.beside.same t h1 h2 h3]
theorem onto_whole {b : List Int} (T : Tidy b) : Onto b (whole b) ∧ rawC (whole b) (headOf (whole b)) = rawC b (headOf b) := by
  obtain ⟨h1, h2⟩ := head_whole T.head
  have S : Beside b (whole b) := ⟨h1, by rw [h2], by rw [h2], by rw [h2], by rw [h2], by rw [many_whole]; exact Nat.le_refl _, fun t _ _ _ => cl_whole b t⟩
  obtain ⟨T2, e⟩ := tidy_same T S (by rw [h2]) (fun _ i _ => by rw [cl_whole])
  exact ⟨⟨S, T2, fun t _ _ h c hc => by rw [e] at hc; exact h c hc⟩, e⟩
theorem onto_refs {b : List Int} (T : Tidy b) (h0 : (headOf b).refs = 0) (hm : manyN b < 64) : Onto b (refsL b) ∧ (headOf (refsL b)).refs = (manyN b : Int) ∧ manyN (refsL b) = manyN b + 1 := by
  have hw : manyN (whole b) < 64 := by rw [many_whole]; exact hm
  obtain ⟨h1, h2, h3⟩ := refsL_head T.head hw
  rw [many_whole] at h2
  have hmx : manyN (refsL b) = manyN b + 1 := by show ((refsL b).length + 7) / 8 = _; rw [h3]; omega
  have hp := whole_pos T.head
  have hwd : ∀ t i, 1 ≤ t → i < 8 → (cl (refsL b) t).getD i 0 = if manyN b ≤ t then 0 else b.getD (t * 8 + i) 0 := by
    intro t i ht hi
    have hl := more_length (whole b) (List.replicate 8 0) (by simp)
    rw [cl_word_get _ _ _ hi]
    unfold refsL
    rw [setCl_get (by omega) (hdW_length _), if_neg (by omega), more_get _ _ (by simp), many_whole, whole_get]
    by_cases h : manyN b ≤ t
    · rw [if_pos (by omega), if_pos h, zeros_get]
    · rw [if_neg (by omega), if_neg h]
  have S : Beside b (refsL b) := by
    refine ⟨h1, by rw [h2], by rw [h2], by rw [h2], by rw [h2], by omega, fun t ht htm _ => ?_⟩
    unfold cl
    refine f8_congr (fun i hi => ?_)
    have := hwd t i ht hi
    rw [cl_word_get _ _ _ hi, if_neg (by omega)] at this
    exact this
  obtain ⟨T2, e⟩ := tidy_refs T S h0 (by rw [h2]) hmx (fun i hi => by rw [hwd _ _ (by omega) hi, if_pos (Nat.le_refl _)])
  refine ⟨⟨S, T2, fun t ht htm h c hc hg hk => ?_⟩, by rw [h2], hmx⟩
  rw [e] at hc
  simp at hc
  rcases hc with rfl | rfl | rfl | hc | hc | hc
  · simp at hk
  · simp at hk
  · simp only; omega
  · have := rSh_kind hc; omega
  · have := rSec_kind hc; omega
  · have := rDat_kind hc; omega

/-- What a slot's block is. -/
theorem blk_at (s : Nat) : ∀ (l : List Cm) (o : List Int), s < o.length → (∃ c ∈ l, c.good = true ∧ c.kind = 4 ∧ c.slot.toNat = s) → ∃ c ∈ l, c.good = true ∧ c.kind = 4 ∧ c.slot.toNat = s ∧ (l.foldl blkStep o).getD s 0 = c.target
  | [], _, _, ⟨c, hc, _⟩ => by cases hc
  | d :: l, o, hs, ⟨c, hc, hg, hk, hsl⟩ => by
    rw [List.foldl_cons]
    have hl : (blkStep o d).length = o.length := by unfold blkStep; split <;> simp
    by_cases hex : ∃ c ∈ l, c.good = true ∧ c.kind = 4 ∧ c.slot.toNat = s
    · obtain ⟨e, he, h⟩ := blk_at s l (blkStep o d) (by omega) hex
      exact ⟨e, by simp [he], h⟩
    · have hcd : c = d := by
        rcases List.mem_cons.1 hc with h | h
        · exact h
        · exact absurd ⟨c, h, hg, hk, hsl⟩ hex
      subst hcd
      have hno : ∀ (l : List Cm) (o : List Int), (¬ ∃ c ∈ l, c.good = true ∧ c.kind = 4 ∧ c.slot.toNat = s) → (l.foldl blkStep o).getD s 0 = o.getD s 0 := by
        intro l
        induction l with
        | nil => intro o _; rfl
        | cons e l ih =>
          intro o hn
          rw [List.foldl_cons, ih _ (fun ⟨c, hc, h⟩ => hn ⟨c, by simp [hc], h⟩)]
          unfold blkStep
          split
          · rename_i hh
            rw [getD_set, if_neg (fun h => hn ⟨e, by simp, hh.1, hh.2, h.1⟩)]
          · rfl
      refine ⟨c, by simp, hg, hk, hsl, ?_⟩
      rw [hno l _ hex]
      unfold blkStep
      rw [if_pos ⟨hg, hk⟩, getD_set, if_pos ⟨hsl, by omega⟩]
theorem blk_none (s : Nat) : ∀ (l : List Cm) (o : List Int), (∀ c ∈ l, c.good = true → c.kind = 4 → c.slot.toNat ≠ s) → (l.foldl blkStep o).getD s 0 = o.getD s 0
  | [], _, _ => rfl
  | e :: l, o, hn => by
    rw [List.foldl_cons, blk_none s l _ (fun c hc => hn c (by simp [hc]))]
    unfold blkStep
    split
    · rename_i hh
      rw [getD_set, if_neg (fun h => hn e (by simp) hh.1 hh.2 h.1)]
    · rfl
/-- Of an image: a slot's block is the target of a good claim, or none. -/
theorem block_is {b : List Int} (s : Nat) (hs : s < 8) : (∃ c ∈ claimsC b, c.good = true ∧ c.kind = 4 ∧ c.slot = s ∧ (blocksC (claimsC b)).getD s 0 = c.target) ∨ ((blocksC (claimsC b)).getD s 0 = 0 ∧ ∀ c ∈ claimsC b, c.good = true → c.kind = 4 → c.slot ≠ s) := by
  by_cases hex : ∃ c ∈ claimsC b, c.good = true ∧ c.kind = 4 ∧ c.slot.toNat = s
  · obtain ⟨c, hc, h1, h2, h3, h4⟩ := blk_at s (claimsC b) (List.replicate 8 0) (by simpa using hs) hex
    have := (claims_ok b c hc).slot0
    exact .inl ⟨c, hc, h1, h2, by omega, h4⟩
  · refine .inr ⟨?_, fun c hc h1 h2 h3 => hex ⟨c, hc, h1, h2, by omega⟩⟩
    unfold blocksC
    rw [blk_none s _ _ (fun c hc h1 h2 h3 => hex ⟨c, hc, h1, h2, h3⟩), zeros_get]
theorem lacks_some {ct bs : List Int} (h : 0 ≤ lacksC ct bs) : lacksC ct bs ≤ 7 ∧ bs.getD (lacksC ct bs).toNat 0 = 0 := by
  cases hc : (List.range 64).find? (lackAt ct bs) with
  | none =>
    have e : lacksC ct bs = -1 := by unfold lacksC; rw [hc]
    omega
  | some c =>
    have e : lacksC ct bs = ((c / 8 : Nat) : Int) := by unfold lacksC; rw [hc]
    have h1 := List.find?_some hc
    have h2 := List.mem_range.1 (List.mem_of_find?_eq_some hc)
    unfold lackAt at h1
    rw [Bool.and_eq_true, decide_eq_true_eq, decide_eq_true_eq] at h1
    rw [e, Int.toNat_natCast]
    exact ⟨by omega, h1.2⟩
theorem lacks_none {ct bs : List Int} (h : lacksC ct bs < 0) : ∀ c, c < 64 → bs.getD (c / 8) 0 = 0 → ct.getD c 0 = 0 := by
  intro c hc hb
  unfold lacksC at h
  split at h
  · omega
  · rename_i hn
    rw [List.find?_eq_none] at hn
    have := hn c (List.mem_range.2 hc)
    unfold lackAt at this
    rw [hb] at this
    simpa using this
/-- One block more. -/
theorem onto_block {b : List Int} (T : Tidy b) (h0 : (headOf b).refs ≠ 0) (hm : manyN b < 64) (hl : ¬ lacksL b < 0) : Onto b (blockStep (headOf b).refs.toNat b) ∧ headOf (blockStep (headOf b).refs.toNat b) = headOf b := by
  have hrm : (⟨3, 0, 0, 0, (headOf b).refs, true⟩ : Cm) ∈ rawC b (headOf b) := raw_r1 (by unfold r1C; simp [h0])
  have hrt := T.there hrm rfl (by simp)
  simp only at hrt
  obtain ⟨h1, h2⟩ := block_head (refs := (headOf b).refs.toNat) T.head hm (by omega)
  have hmx := block_many (refs := (headOf b).refs.toNat) (xs := b)
  have hp := whole_pos T.head
  have hll : 0 ≤ lacksL b := by omega
  obtain ⟨hs7, hsb⟩ := lacks_some (ct := countsC (claimsC b)) (bs := blocksC (claimsC b)) hll
  have hs8 : (lacksL b).toNat < 8 := by unfold lacksL at *; omega
  have hwd : ∀ t i, i < 8 → (cl (blockStep (headOf b).refs.toNat b) t).getD i 0 = if t = (headOf b).refs.toNat ∧ i = (lacksL b).toNat then (manyN b : Int) else (if manyN b ≤ t then 0 else b.getD (t * 8 + i) 0) := by
    intro t i hi
    rw [cl_word_get _ _ _ hi]
    unfold blockStep
    have hln := more_length b (List.replicate 8 0) (by simp)
    rw [getD_set, hln, more_get _ _ (by simp)]
    by_cases h : t = (headOf b).refs.toNat ∧ i = (lacksL b).toNat
    · rw [if_pos ⟨by rw [h.1, h.2], by omega⟩, if_pos h]
    · rw [if_neg (fun h3 => h (by omega)), if_neg h]
      by_cases h4 : manyN b ≤ t
      · rw [if_pos (by omega), if_pos h4, zeros_get]
      · rw [if_neg (by omega), if_neg h4]
  have hpl : ∀ t : Nat, plainT b t → t ≠ (headOf b).refs.toNat := fun t h e => by
    have := h _ hrm rfl (.inl rfl)
    simp only at this
    omega
  have S : Beside b (blockStep (headOf b).refs.toNat b) := by
    refine ⟨h1, by rw [h2], by rw [h2], by rw [h2], by rw [h2], by omega, fun t ht htm hpt => ?_⟩
    unfold cl
    refine f8_congr (fun i hi => ?_)
    have := hwd t i hi
    rw [cl_word_get _ _ _ hi, if_neg (fun h => hpl t hpt h.1), if_neg (by omega)] at this
    exact this
  have hs0 : targetOf ((cl b (headOf b).refs.toNat).getD (lacksL b).toNat 0) = 0 := by
    by_cases hz : targetOf ((cl b (headOf b).refs.toNat).getD (lacksL b).toNat 0) = 0
    · exact hz
    · have hin : (⟨4, (headOf b).refs.toNat, (lacksL b).toNat, 0 + 0 * ((lacksL b).toNat : Int), targetOf ((cl b (headOf b).refs.toNat).getD (lacksL b).toNat 0), true⟩ : Cm) ∈ claimsC b := by
        rw [T.claims]
        refine raw_blk ?_
        unfold rBlk
        rw [if_pos h0]
        exact tabT_mem.2 ⟨(lacksL b).toNat, hs8, hz, rfl⟩
      rcases block_is (b := b) (lacksL b).toNat hs8 with ⟨c, hc, hg, hk, _, he⟩ | ⟨_, hno⟩
      · have ht := there_lt (good_there hc hg (by omega))
        unfold lacksL at he
        rw [hsb] at he
        omega
      · exact absurd rfl (hno _ hin rfl rfl)
  obtain ⟨T2, A, B, e1, e2⟩ := tidy_block T S h0 (by rw [h2]) hmx (lacksL b).toNat hs8 hs0 (by
    rw [hwd _ _ hs8, if_pos ⟨rfl, rfl⟩, targetOf_yes (inB_true.2 (by omega))]
    omega) (fun i hi hne => by
    rw [hwd _ _ hi, if_neg (fun h => hne h.2), if_neg (by omega), cl_word_get _ _ _ hi])
  refine ⟨⟨S, T2, fun t ht htm h c hc hg hk => ?_⟩, h2⟩
  rw [e2, List.mem_append, List.mem_cons] at hc
  rcases hc with hc | rfl | hc
  · exact h c (by rw [e1]; simp [hc]) hg hk
  · simp only; omega
  · exact h c (by rw [e1]; simp [hc]) hg hk
theorem onto_refl {b : List Int} (T : Tidy b) : Onto b b := ⟨⟨T.head, rfl, rfl, rfl, rfl, Nat.le_refl _, fun _ _ _ _ => rfl⟩, T, fun _ _ _ h => h⟩
theorem onto_blocks : ∀ (k : Nat) (b y : List Int), Tidy b → (headOf b).refs ≠ 0 → fixBlocks (headOf b).refs.toNat k b = some y → Onto b y ∧ headOf y = headOf b ∧ lacksL y < 0
  | 0, b, y, T, h0, h => by
    unfold fixBlocks at h
    split at h
    · rename_i hl
      injection h with h
      subst h
      exact ⟨onto_refl T, rfl, hl⟩
    · cases h
  | k + 1, b, y, T, h0, h => by
    unfold fixBlocks at h
    split at h
    · rename_i hl
      injection h with h
      subst h
      exact ⟨onto_refl T, rfl, hl⟩
    · rename_i hl
      split at h
      · cases h
      · rename_i hm
        obtain ⟨O1, e1⟩ := onto_block T h0 (by omega) hl
        rw [← e1] at h
        obtain ⟨O2, e2, h2⟩ := onto_blocks k _ y O1.tidy (by rw [e1]; exact h0) (by rw [e1] at h ⊢; exact h)
        exact ⟨O1.trans O2, e2.trans e1, h2⟩

def posB (bs : List Int) (c : Nat) : Nat := (bs.getD (c / 8) 0).toNat * 8 + c % 8
theorem wts_length (ct bs z : List Int) (k : Nat) : ((List.range k).foldl (wtStep ct bs) z).length = z.length := by
  induction k with
  | zero => rfl
  | succ k ih =>
    rw [range_fold_s]
    unfold wtStep at ih ⊢
    split
    · rw [List.length_set]; exact ih
    · exact ih
theorem wt_other (ct bs z : List Int) (j : Nat) : ∀ k, (∀ c, c < k → bs.getD (c / 8) 0 ≠ 0 → posB bs c ≠ j) → ((List.range k).foldl (wtStep ct bs) z).getD j 0 = z.getD j 0
  | 0, _ => rfl
  | k + 1, h => by
    have ih := wt_other ct bs z j k (fun c hc => h c (by omega))
    rw [range_fold_s]
    by_cases hb : bs.getD (k / 8) 0 ≠ 0
    · have e : ∀ o, wtStep ct bs o k = o.set (posB bs k) (ct.getD k 0) := fun o => if_pos hb
      rw [e, getD_set, if_neg (fun h2 => h k (by omega) hb h2.1), ih]
    · have e : ∀ o, wtStep ct bs o k = o := fun o => if_neg hb
      rw [e, ih]
theorem wt_at (ct bs z : List Int) (hinj : ∀ s s', s < 8 → s' < 8 → bs.getD s 0 ≠ 0 → bs.getD s 0 = bs.getD s' 0 → s = s') (hpos : ∀ s, 0 ≤ bs.getD s 0) (hlen : ∀ s, bs.getD s 0 ≠ 0 → (bs.getD s 0).toNat * 8 + 8 ≤ z.length) :
    ∀ k, k ≤ 64 → ∀ c, c < k → bs.getD (c / 8) 0 ≠ 0 → ((List.range k).foldl (wtStep ct bs) z).getD (posB bs c) 0 = ct.getD c 0
  | 0, _, c, hc, _ => by omega
  | k + 1, hk, c, hc, hb => by
    rw [range_fold_s]
    by_cases e : c = k
    · subst e
      have e2 : ∀ o, wtStep ct bs o c = o.set (posB bs c) (ct.getD c 0) := fun o => if_pos hb
      have hlt : posB bs c < z.length := by
        have := hlen _ hb
        unfold posB
        omega
      rw [e2, getD_set, wts_length, if_pos ⟨rfl, hlt⟩]
    · have ih := wt_at ct bs z hinj hpos hlen k (by omega) c (by omega) hb
      by_cases hb2 : bs.getD (k / 8) 0 ≠ 0
      · have e2 : ∀ o, wtStep ct bs o k = o.set (posB bs k) (ct.getD k 0) := fun o => if_pos hb2
        rw [e2, getD_set, if_neg, ih]
        rintro ⟨h1, _⟩
        unfold posB at h1
        have h3 := hpos (c / 8)
        have h4 := hpos (k / 8)
        have := hinj (c / 8) (k / 8) (by omega) (by omega) hb (by omega)
        omega
      · have e2 : ∀ o, wtStep ct bs o k = o := fun o => if_neg hb2
        rw [e2, ih]
theorem block_inj {b : List Int} {s s' : Nat} (hs : s < 8) (hs' : s' < 8) (h : (blocksC (claimsC b)).getD s 0 ≠ 0) (e : (blocksC (claimsC b)).getD s 0 = (blocksC (claimsC b)).getD s' 0) : s = s' := by
  rcases block_is (b := b) s hs with ⟨c, hc, hg, hk, hsl, ht⟩ | ⟨h0, _⟩
  · rcases block_is (b := b) s' hs' with ⟨d, hd, hg', hk', hsl', ht'⟩ | ⟨h0, _⟩
    · have := (good_one hc hd hg hg' (by omega)).2 (by omega)
      subst this
      omega
    · omega
  · exact absurd h0 h
theorem block_pos {b : List Int} (s : Nat) : 0 ≤ (blocksC (claimsC b)).getD s 0 := by
  rcases blocks_there b s with h | h
  · omega
  · have := there_lt h; omega
/-- Its counts are written: the claims stay, and what is stored is what is counted. -/
theorem onto_write {b : List Int} (T : Tidy b) (h0 : (headOf b).refs ≠ 0) (hl : lacksL b < 0) : Onto b (writeC b) ∧ rawC (writeC b) (headOf (writeC b)) = rawC b (headOf b) ∧ storedL (writeC b) = countsL (writeC b) ∧ headOf (writeC b) = headOf b := by
  obtain ⟨h1, h2⟩ := write_head T.head
  have hlen := write_length b
  have hmx : manyN (writeC b) = manyN b := by show ((writeC b).length + 7) / 8 = _; rw [hlen]; omega
  have hrm : (⟨3, 0, 0, 0, (headOf b).refs, true⟩ : Cm) ∈ rawC b (headOf b) := raw_r1 (by unfold r1C; simp [h0])
  have hblk : ∀ c, c < 64 → (blocksC (claimsC b)).getD (c / 8) 0 ≠ 0 → ∃ d ∈ rawC b (headOf b), d.good = true ∧ d.kind = 4 ∧ d.target = (blocksC (claimsC b)).getD (c / 8) 0 := by
    intro c hc hb
    rcases block_is (b := b) (c / 8) (by omega) with ⟨d, hd, hg, hk, _, ht⟩ | ⟨h3, _⟩
    · rw [T.claims] at hd
      exact ⟨d, hd, hg, hk, ht.symm⟩
    · exact absurd h3 hb
  have hoth : ∀ t : Nat, (∀ d ∈ rawC b (headOf b), d.good = true → d.kind = 4 → d.target ≠ t) → cl (writeC b) t = cl b t := by
    intro t ht
    unfold cl
    refine f8_congr (fun i hi => ?_)
    unfold writeC wtTo
    rw [wt_other _ _ _ _ _ (fun c hc hb e => ?_), whole_get]
    obtain ⟨d, hd, hg, hk, hdt⟩ := hblk c hc hb
    have := ht d hd hg hk
    have := block_pos (b := b) (c / 8)
    unfold posB at e
    omega
  have S : Beside b (writeC b) := ⟨h1, by rw [h2], by rw [h2], by rw [h2], by rw [h2], by omega, fun t _ _ hp => hoth t (fun d hd hg hk => hp d hd hg (.inr hk))⟩
  have hrt := T.there hrm rfl (by simp)
  simp only at hrt
  obtain ⟨T2, e⟩ := tidy_same T S (by rw [h2]) (fun _ i _ => by
    rw [hoth]
    intro d hd hg hk hdt
    have := (T.one hd hrm hg rfl (by simp only; omega)).1
    simp only at this
    omega)
  refine ⟨⟨S, T2, fun t _ _ h c hc => by rw [e] at hc; exact h c hc⟩, e, ?_, h2⟩
  have ec : claimsC (writeC b) = claimsC b := by rw [T2.claims, T.claims, e]
  have e1 : storedL (writeC b) = storedC (writeC b) (blocksC (claimsC b)) := by unfold storedL; rw [if_pos h1, ec]
  have e2 : countsL (writeC b) = countsC (claimsC b) := by unfold countsL; rw [if_pos h1, ec]
  rw [e1, e2]
  apply List.ext_getElem?
  intro c
  unfold storedC
  rw [List.getElem?_map]
  by_cases hc : c < 64
  · rw [List.getElem?_range hc, List.getElem?_eq_getElem (by rw [counts_length]; exact hc)]
    simp only [Option.map_some]
    congr 1
    have eg : (countsC (claimsC b))[c]'(by rw [counts_length]; exact hc) = (countsC (claimsC b)).getD c 0 := by
      rw [List.getD_eq_getElem?_getD, List.getElem?_eq_getElem (by rw [counts_length]; exact hc)]; rfl
    rw [eg]
    by_cases hb : (blocksC (claimsC b)).getD (c / 8) 0 ≠ 0
    · rw [if_pos hb, cl_word_get _ _ _ (by omega)]
      exact wt_at (countsC (claimsC b)) (blocksC (claimsC b)) (whole b) (fun s s' hs hs' h h' => block_inj hs hs' h h') (fun s => block_pos s) (fun s hs => by
        rcases blocks_there b s with h | h
        · exact absurd h hs
        · have := there_lt h
          rw [whole_length]
          omega) 64 (Nat.le_refl _) c hc hb
    · rw [if_neg hb]
      exact (lacks_none hl c hc (by simpa using hb)).symm
  · rw [List.getElem?_eq_none (by simpa using hc), List.getElem?_eq_none (by rw [counts_length]; omega)]
    rfl
theorem refs_ne {b : List Int} (T : Tidy b) (h : (headOf b).refs ≠ 0) : 1 ≤ (headOf b).refs ∧ (headOf b).refs < manyN b := by
  have hrm : (⟨3, 0, 0, 0, (headOf b).refs, true⟩ : Cm) ∈ rawC b (headOf b) := raw_r1 (by unfold r1C; simp [h])
  exact T.there hrm rfl (by simp)
/-- What is counted anew. -/
structure CountedOk (b y : List Int) : Prop where
  onto : Onto b y
  stored : storedL y = countsL y
  good : ∀ c ∈ claimsC y, c.good = true
  eight : y.length = manyN y * 8
  refs : (headOf y).refs ≠ 0
theorem counted_ok {b : List Int} (h : countedL b ≠ []) : readyB b = true ∧ CountedOk b (countedL b) := by
  unfold countedL at h ⊢
  cases hr : readyB b
  · rw [hr] at h; exact absurd rfl h
  · refine ⟨rfl, ?_⟩
    rw [hr, if_pos rfl] at h
    rw [if_pos rfl]
    obtain ⟨T, hf⟩ := ready_tidy hr
    have base : ∃ y, countBase b = some y ∧ Onto b y ∧ (headOf y).refs ≠ 0 := by
      unfold countBase at h ⊢
      by_cases h0 : (headOf b).refs = 0
      · rw [if_pos h0] at h ⊢
        by_cases hm : manyN (whole b) < 64
        · rw [if_pos hm]
          have hm' : manyN b < 64 := by rw [← many_whole]; exact hm
          obtain ⟨O, e, _⟩ := onto_refs T h0 hm'
          have := whole_pos T.head
          exact ⟨_, rfl, O, by rw [e]; omega⟩
        · rw [if_neg hm] at h; exact absurd rfl h
      · rw [if_neg h0]
        exact ⟨_, rfl, (onto_whole T).1, by rw [(head_whole T.head).2]; exact h0⟩
    obtain ⟨y, ey, O1, hy0⟩ := base
    rw [ey] at h ⊢
    change countEnd (blocksL y) ≠ [] at h
    change CountedOk b (countEnd (blocksL y))
    cases eb : blocksL y with
    | none => rw [eb] at h; exact absurd rfl h
    | some z =>
      unfold blocksL at eb
      obtain ⟨O2, e2, hl⟩ := onto_blocks 64 y z O1.tidy hy0 eb
      have hz0 : (headOf z).refs ≠ 0 := by rw [e2]; exact hy0
      obtain ⟨O3, e3, hs, h3⟩ := onto_write O2.tidy hz0 hl
      have O := (O1.trans O2).trans O3
      show CountedOk b (writeC z)
      refine ⟨O, hs, ?_, ?_, by rw [h3]; exact hz0⟩
      · intro c hc
        rcases neat_all O3.tidy.neat c hc with hg | ⟨hk, ht⟩
        · exact hg
        · exfalso
          rcases hk with hk | hk
          · rw [kind2_is hc hk, O.beside.first] at ht
            exact hf ht
          · rw [kind3_is hc hk, h3] at ht
            exact hz0 ht
      · rw [write_length]
        have : manyN (writeC z) = manyN z := by show ((writeC z).length + 7) / 8 = _; rw [write_length]; omega
        rw [this]
theorem counted_law {b : List Int} (h : countedL b ≠ []) : storedL (countedL b) = countsL (countedL b) ∧ looseL (countedL b) = [] ∧ b.length ≤ (countedL b).length := by
  obtain ⟨hr, K⟩ := counted_ok h
  refine ⟨K.stored, ?_, ?_⟩
  · unfold looseL claimsL
    rw [if_pos K.onto.beside.head, List.filter_eq_nil_iff]
    intro c hc
    simp [K.good c hc]
  · rw [K.eight]
    have := K.onto.beside.more
    unfold manyN at this
    have e : manyN (countedL b) = ((countedL b).length + 7) / 8 := rfl
    omega

/-- The same targets, the same head: the same claims. -/
theorem claims_congr {b x : List Int} (hm : manyN x = manyN b) (hh : headOf x = headOf b) (ht : ∀ t i, i < 8 → targetOf ((cl x t).getD i 0) = targetOf ((cl b t).getD i 0))
    (hS : (headOf b).many ≠ 0 → (⟨5, 0, 0, 0, (headOf b).shots, true⟩ : Cm) ∈ claimsC b → shotsL x = shotsL b) : claimsC x = claimsC b := by
  have eg : goodB x = goodB b := by
    funext size l c
    unfold goodB
    rw [there_many hm]
  have ea : addC x = addC b := by
    funext size l c
    unfold addC
    rw [eg]
  have et : ∀ (size : Int) (l : List Cm) (kind : Int) (t : Nat) (place step : Int), tabC x size l kind t place step = tabC b size l kind t place step := by
    intro size l kind t place step
    rw [tabC_fold, tabC_fold, ea, tabT_congr (fun i hi => ht t i hi)]
  have e1 : c1C x (headOf b) = c1C b (headOf b) := by unfold c1C; rw [ea]
  have e2 : c2C x (headOf b) = c2C b (headOf b) := by unfold c2C; rw [ea, e1]
  have e3 : c3C x (headOf b) = c3C b (headOf b) := by unfold c3C; rw [eg, e1, et, e2]
  have e4 : c4C x (headOf b) = c4C b (headOf b) := by
    have hsub := c4_sub b
    unfold c4C shotsC at hsub ⊢
    rw [eg, ea, e3]
    by_cases h0 : (headOf b).many = 0
    · rw [if_pos h0, if_pos h0]
    · rw [if_neg h0] at hsub
      rw [if_neg h0, if_neg h0]
      by_cases hg : goodB b (headOf b).size (c3C b (headOf b)) ⟨5, 0, 0, 0, (headOf b).shots, false⟩ = true
      · rw [if_pos hg] at hsub
        rw [if_pos hg, if_pos hg, shot_fold, shot_fold, ea, hS h0 (hsub _ (by
          rw [shot_fold]
          refine (addC_pre _ _ _ _).subset ?_
          unfold addC
          rw [hg]
          simp))]
      · rw [if_neg hg, if_neg hg]
  have e5 : c5C x (headOf b) = c5C b (headOf b) := by
    unfold c5C
    rw [e4]
    congr 1
    funext l f
    exact et _ _ _ _ _ _
  unfold claimsC c6C
  rw [hh, e5]
  congr 1
  funext l c
  unfold datStep
  rw [et]

theorem target_entry {t : Int} {o : Bool} (h0 : 0 ≤ t) (h1 : t ≤ 32767) : targetOf (entryOf t o) = t ∧ wordB (entryOf t o) = true := by
  have hi : inB t 0 32767 = true := inB_true.2 ⟨h0, h1⟩
  unfold entryOf
  rw [hi, if_pos rfl]
  cases o
  · rw [if_neg (by simp), targetOf_yes (inB_true.2 (by omega))]
    exact ⟨by omega, inB_true.2 (by omega)⟩
  · rw [if_pos rfl, targetOf_yes (inB_true.2 (by omega))]
    exact ⟨by omega, inB_true.2 (by omega)⟩
/-- The word of a slot as it must be. -/
def mustW (b : List Int) (t : Int) (s : Nat) : Int := mustC (claimsC b) (countsC (claimsC b)) t s ((cl b t.toNat).getD s 0)
theorem must_find {b : List Int} {t : Int} {s : Nat} {c : Cm} (hc : (claimsC b).find? (mustP t s) = some c) : c ∈ claimsC b ∧ (c.kind = 4 ∨ c.kind = 7 ∨ c.kind = 8) ∧ c.frm = t ∧ c.slot = s ∧ c.target = targetOf ((cl b t.toNat).getD s 0) := by
  have h1 := List.find?_some hc
  have h2 := List.mem_of_find?_eq_some hc
  unfold mustP at h1
  simp at h1
  obtain ⟨⟨hf, hs⟩, hk⟩ := h1
  obtain ⟨d, hd, _⟩ := claim_tab h2 hk
  refine ⟨h2, hk, hf, hs, ?_⟩
  rw [hd.word, ← hd.frm, hf, hs, Int.toNat_natCast]
theorem must_target {b : List Int} (hh : hasHead b = true) (t : Int) (s : Nat) (hs : s < 8) : targetOf (mustW b t s) = targetOf ((cl b t.toNat).getD s 0) ∧ wordB (mustW b t s) = true := by
  have hw : wordB ((cl b t.toNat).getD s 0) = true := by
    rw [cl_word_get _ _ _ hs]
    exact inB_true.2 (word_get (hasHead_img hh) _)
  unfold mustW mustC
  by_cases h0 : targetOf ((cl b t.toNat).getD s 0) = 0
  · rw [if_pos h0, h0]; exact ⟨rfl, rfl⟩
  · rw [if_neg h0]
    cases hc : (claimsC b).find? (mustP t s) with
    | none => exact ⟨rfl, hw⟩
    | some c =>
      obtain ⟨h1, hk, _, _, h2⟩ := must_find hc
      unfold mustOf
      by_cases hg : c.good = true
      · have ht := there_lt (good_there h1 hg (by omega))
        have hm := manyN_le (hasHead_img hh)
        simp only [if_pos hg]
        have := target_entry (t := c.target) (o := (c.kind != 4 && (countsC (claimsC b)).getD c.target.toNat 0 == 1)) (by omega) (by omega)
        exact ⟨this.1.trans h2, this.2⟩
      · simp only [if_neg hg]
        exact ⟨trivial, hw⟩
/-- What must be stays so. -/
theorem must_again {b : List Int} (hh : hasHead b = true) (t : Int) (s : Nat) (hs : s < 8) : mustC (claimsC b) (countsC (claimsC b)) t s (mustW b t s) = mustW b t s := by
  have ht := (must_target hh t s hs).1
  by_cases h0 : targetOf ((cl b t.toNat).getD s 0) = 0
  · have e : mustW b t s = 0 := by unfold mustW mustC; rw [if_pos h0]
    rw [e]
    rfl
  · have e : ∀ w, targetOf w ≠ 0 → mustC (claimsC b) (countsC (claimsC b)) t s w = mustOf (countsC (claimsC b)) w ((claimsC b).find? (mustP t s)) := fun w h => by unfold mustC; rw [if_neg h]
    have e1 : mustW b t s = mustOf (countsC (claimsC b)) ((cl b t.toNat).getD s 0) ((claimsC b).find? (mustP t s)) := e _ h0
    rw [e _ (by rw [ht]; exact h0), e1]
    cases (claimsC b).find? (mustP t s) with
    | none => rfl
    | some c =>
      unfold mustOf
      by_cases hg : c.good = true
      · simp only [if_pos hg]
      · simp only [if_neg hg]

theorem wrs_iff (xs : List Int) (l : List Cm) (ct : List Int) (t : Int) : ∀ (k : Nat) (o : List Wr) (x : Wr), x ∈ (List.range k).foldl (wrStep xs l ct t) o ↔ x ∈ o ∨ ∃ s : Nat, s < k ∧ mustC l ct t s ((cl xs t.toNat).getD s 0) ≠ (cl xs t.toNat).getD s 0 ∧ x = ⟨t, s, mustC l ct t s ((cl xs t.toNat).getD s 0)⟩
  | 0, o, x => by simp
  | k + 1, o, x => by
    rw [range_fold]
    have ih := wrs_iff xs l ct t k o x
    by_cases h : mustC l ct t k ((cl xs t.toNat).getD k 0) ≠ (cl xs t.toNat).getD k 0
    · have e : ∀ o, wrStep xs l ct t o k = o ++ [⟨t, k, mustC l ct t k ((cl xs t.toNat).getD k 0)⟩] := fun o => if_pos h
      rw [e, List.mem_append, ih, List.mem_singleton]
      constructor
      · rintro ((h1 | ⟨s, h1, h2, h3⟩) | h1)
        · exact .inl h1
        · exact .inr ⟨s, by omega, h2, h3⟩
        · exact .inr ⟨k, by omega, h, h1⟩
      · rintro (h1 | ⟨s, h1, h2, h3⟩)
        · exact .inl (.inl h1)
        · by_cases e2 : s = k
          · subst e2; exact .inr h3
          · exact .inl (.inr ⟨s, by omega, h2, h3⟩)
    · have e : ∀ o, wrStep xs l ct t o k = o := fun o => if_neg h
      rw [e, ih]
      constructor
      · rintro (h1 | ⟨s, h1, h2⟩)
        · exact .inl h1
        · exact .inr ⟨s, by omega, h2⟩
      · rintro (h1 | ⟨s, h1, h2, h3⟩)
        · exact .inl h1
        · by_cases e2 : s = k
          · subst e2; exact absurd h2 h
          · exact .inr ⟨s, by omega, h2, h3⟩
theorem wrR_iff (xs : List Int) (l : List Cm) (ct : List Int) : ∀ (ts : List Int) (o : List Wr) (x : Wr), x ∈ ts.foldl (wrRound xs l ct) o ↔ x ∈ o ∨ ∃ t ∈ ts, ∃ s : Nat, s < 8 ∧ mustC l ct t s ((cl xs t.toNat).getD s 0) ≠ (cl xs t.toNat).getD s 0 ∧ x = ⟨t, s, mustC l ct t s ((cl xs t.toNat).getD s 0)⟩
  | [], o, x => by simp
  | t :: ts, o, x => by
    rw [List.foldl_cons, wrR_iff xs l ct ts]
    unfold wrRound
    rw [wrs_iff]
    constructor
    · rintro ((h | ⟨s, h⟩) | ⟨u, hu, s, h⟩)
      · exact .inl h
      · exact .inr ⟨t, by simp, s, h⟩
      · exact .inr ⟨u, by simp [hu], s, h⟩
    · rintro (h | ⟨u, hu, s, h⟩)
      · exact .inl (.inl h)
      · rcases List.mem_cons.1 hu with rfl | hu
        · exact .inl (.inr ⟨s, h⟩)
        · exact .inr ⟨u, hu, s, h⟩
theorem wrongs_iff (b : List Int) (x : Wr) : x ∈ wrongsC b ↔ ∃ t ∈ tablesC (claimsC b), ∃ s : Nat, s < 8 ∧ mustW b t s ≠ (cl b t.toNat).getD s 0 ∧ x = ⟨t, s, mustW b t s⟩ := by
  unfold wrongsC
  rw [wrR_iff]
  simp [mustW]
theorem ow_get : ∀ (l : List Wr) (z : List Int) (j : Nat), (∀ x ∈ l, x.frm.toNat * 8 + x.slot.toNat < z.length) →
    (∃ x ∈ l, x.frm.toNat * 8 + x.slot.toNat = j ∧ (l.foldl owStep z).getD j 0 = x.must) ∨ ((∀ x ∈ l, x.frm.toNat * 8 + x.slot.toNat ≠ j) ∧ (l.foldl owStep z).getD j 0 = z.getD j 0)
  | [], z, j, _ => .inr ⟨by simp, rfl⟩
  | x :: l, z, j, h => by
    rw [List.foldl_cons]
    rcases ow_get l (owStep z x) j (fun y hy => by unfold owStep; rw [List.length_set]; exact h y (by simp [hy])) with ⟨y, hy, h1, h2⟩ | ⟨h1, h2⟩
    · exact .inl ⟨y, by simp [hy], h1, h2⟩
    · unfold owStep at h2 ⊢
      by_cases e : x.frm.toNat * 8 + x.slot.toNat = j
      · refine .inl ⟨x, by simp, e, ?_⟩
        rw [h2, getD_set, if_pos ⟨e, h x (by simp)⟩]
      · refine .inr ⟨fun y hy => ?_, ?_⟩
        · rcases List.mem_cons.1 hy with rfl | hy
          · exact e
          · exact h1 y hy
        · rw [h2, getD_set, if_neg (fun h3 => e h3.1)]
theorem owned_tab {b : List Int} {t : Int} (ht : t ∈ tablesC (claimsC b)) {s : Nat} (hs : s < 8) : (cl (ownedC b) t.toNat).getD s 0 = mustW b t s := by
  have htl := there_lt (tables_there ht)
  rw [cl_word_get _ _ _ hs]
  have hin : ∀ x ∈ wrongsC b, x.frm.toNat * 8 + x.slot.toNat < (whole b).length := by
    intro x hx
    obtain ⟨h1, h2, h3⟩ := wrongs_at hx
    have := there_lt h1
    rw [whole_length]
    omega
  unfold ownedC
  rcases ow_get (wrongsC b) (whole b) (t.toNat * 8 + s) hin with ⟨x, hx, h1, h2⟩ | ⟨h1, h2⟩
  · rw [h2]
    obtain ⟨u, hu, r, hr, _, rfl⟩ := (wrongs_iff b x).1 hx
    have hul := there_lt (tables_there hu)
    simp only [Int.toNat_natCast] at h1
    have e1 : u = t := by omega
    have e2 : r = s := by omega
    subst e1 e2
    rfl
  · rw [h2, whole_get, ← cl_word_get _ _ _ hs]
    by_cases h : mustW b t s ≠ (cl b t.toNat).getD s 0
    · exact absurd (by simp) (h1 _ ((wrongs_iff b _).2 ⟨t, ht, s, hs, h, rfl⟩))
    · simp only [ne_eq, Decidable.not_not] at h
      exact h.symm
theorem owned_other {b : List Int} {t : Nat} (ht : ∀ u ∈ tablesC (claimsC b), u ≠ (t : Int)) : cl (ownedC b) t = cl b t := by
  unfold cl
  refine f8_congr (fun s hs => ?_)
  have hin : ∀ x ∈ wrongsC b, x.frm.toNat * 8 + x.slot.toNat < (whole b).length := by
    intro x hx
    obtain ⟨h1, h2, h3⟩ := wrongs_at hx
    have := there_lt h1
    rw [whole_length]
    omega
  unfold ownedC
  rcases ow_get (wrongsC b) (whole b) (t * 8 + s) hin with ⟨x, hx, h1, h2⟩ | ⟨_, h2⟩
  · obtain ⟨u, hu, r, hr, _, rfl⟩ := (wrongs_iff b x).1 hx
    have hul := there_lt (tables_there hu)
    simp only [Int.toNat_natCast] at h1
    exact absurd (by omega) (ht u hu)
  · rw [h2, whole_get]
theorem owned_many (b : List Int) : manyN (ownedC b) = manyN b := by show ((ownedC b).length + 7) / 8 = _; rw [owned_length]; omega
theorem owned_targets {b : List Int} (hh : hasHead b = true) (t i : Nat) (hi : i < 8) : targetOf ((cl (ownedC b) t).getD i 0) = targetOf ((cl b t).getD i 0) := by
  by_cases ht : (t : Int) ∈ tablesC (claimsC b)
  · have := owned_tab ht hi
    rw [Int.toNat_natCast] at this
    rw [this, (must_target hh t i hi).1, Int.toNat_natCast]
  · rw [owned_other (fun u hu e => ht (by rw [← e]; exact hu))]
theorem owned_word {b : List Int} (hh : hasHead b = true) (j : Nat) : wordB ((ownedC b).getD j 0) = true := by
  have e := cl_word_get (ownedC b) (j / 8) (j % 8) (by omega)
  rw [show j / 8 * 8 + j % 8 = j by omega] at e
  rw [← e]
  by_cases ht : ((j / 8 : Nat) : Int) ∈ tablesC (claimsC b)
  · have := owned_tab ht (s := j % 8) (by omega)
    rw [Int.toNat_natCast] at this
    rw [this]
    exact (must_target hh _ _ (by omega)).2
  · rw [owned_other (fun u hu e => ht (by rw [← e]; exact hu)), cl_word_get _ _ _ (by omega)]
    exact inB_true.2 (word_get (hasHead_img hh) _)
theorem owned_zero (b : List Int) : ∀ j, j < 8 → (ownedC b).getD j 0 = b.getD j 0 := by
  intro j hj
  have := owned_other (b := b) (t := 0) (fun u hu => by have := there_lt (tables_there hu); omega)
  have e1 := cl_word_get (ownedC b) 0 j hj
  have e2 := cl_word_get b 0 j hj
  rw [this] at e1
  rw [Nat.zero_mul, Nat.zero_add] at e1 e2
  rw [← e1, ← e2]
theorem owned_head {b : List Int} (hh : hasHead b = true) : hasHead (ownedC b) = true ∧ headOf (ownedC b) = headOf b := by
  have hp := whole_pos hh
  have hm := manyN_le (hasHead_img hh)
  exact ⟨head_congr (owned_zero b) (imgB_gets (by rw [owned_length]; omega) (owned_word hh)) (by rw [owned_length]; omega) hh, headOf_congr (owned_zero b)⟩
theorem owned_shots {b : List Int} (hh : hasHead b = true) (h5 : (⟨5, 0, 0, 0, (headOf b).shots, true⟩ : Cm) ∈ claimsC b) : shotsL (ownedC b) = shotsL b := by
  obtain ⟨h1, h2⟩ := owned_head hh
  have ht := good_there h5 rfl (by simp)
  have htl := there_lt ht
  simp only at ht htl
  have e : cl (ownedC b) (headOf b).shots.toNat = cl b (headOf b).shots.toNat := by
    refine owned_other (fun u hu e => ?_)
    obtain ⟨c, hc, rfl, hg, hk⟩ := tables_mem hu
    have := (good_one hc h5 hg rfl (by simp only; omega)).1
    simp only at this
    omega
  rw [shotsL_some (headIn_yes hh) ht, shotsL_some (headIn_yes h1) (by rw [h2, there_many (owned_many b)]; exact ht), h2, e]
theorem owned_claims {b : List Int} (hh : hasHead b = true) : claimsC (ownedC b) = claimsC b :=
  claims_congr (owned_many b) (owned_head hh).2 (owned_targets hh) (fun _ h5 => owned_shots hh h5)
theorem owned_wrongs {b : List Int} (hh : hasHead b = true) : wrongsC (ownedC b) = [] := by
  rw [List.eq_nil_iff_forall_not_mem]
  intro x hx
  obtain ⟨t, ht, s, hs, h, _⟩ := (wrongs_iff _ x).1 hx
  rw [owned_claims hh] at ht
  apply h
  rw [owned_tab ht hs]
  unfold mustW
  rw [owned_claims hh, owned_tab ht hs]
  exact must_again hh t s hs
theorem owned_stored {b : List Int} (hh : hasHead b = true) : storedL (ownedC b) = storedL b := by
  unfold storedL
  rw [(owned_head hh).1, hh, owned_claims hh]
  simp only [if_pos]
  unfold storedC
  refine List.map_congr_left (fun c hc => ?_)
  rw [List.mem_range] at hc
  by_cases hb : (blocksC (claimsC b)).getD (c / 8) 0 ≠ 0
  · rw [if_pos hb, if_pos hb]
    rcases block_is (b := b) (c / 8) (by omega) with ⟨d, hd, hg, hk, _, ht⟩ | ⟨h0, _⟩
    · rw [owned_other]
      intro u hu e
      obtain ⟨f, hf, rfl, hgf, hkf⟩ := tables_mem hu
      have := block_pos (b := b) (c / 8)
      have := (good_one hf hd hgf hg (by omega)).1
      omega
    · exact absurd h0 hb
  · rw [if_neg hb, if_neg hb]

end Go.Proofs.YtiokfhdkbpoadaaGreatDoor
