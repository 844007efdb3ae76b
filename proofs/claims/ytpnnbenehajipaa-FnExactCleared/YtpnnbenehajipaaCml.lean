/- Claims (chapter 6): the program's side: those inside tables. -/
import Derived.Test.YtpnnbenehajipaaCmk
namespace Go.Proofs.Ytpnnbenehajipaa
open Go.RowKit

def kindIn (k : Int) : Int := if k = 3 then 4 else if k = 2 ∨ k = 6 then 7 else if k = 7 then 8 else 0
def placeIn (k place s : Int) : Int := if kindIn k = 7 then s * 8 else if kindIn k = 8 then place + s else 0

theorem kindInside_any (k : Int) (w : World) : Calls Try.prog 60 #[.int .i64 k] w fun e w' => e = .returned (.int .i64 (kindIn k)) ∧ w = w' := by
  by_cases h3 : k = 3
  · subst h3
    go_enter Try.func60, Try.ntmps60
    go_wp2
    go_ret
    exact ⟨rfl, rfl⟩
  · have q3 : (k == 3) = false := by simpa using h3
    by_cases h2 : k = 2
    · subst h2
      go_enter Try.func60, Try.ntmps60
      go_wp2
      go_ret
      exact ⟨rfl, rfl⟩
    · have q2 : (k == 2) = false := by simpa using h2
      by_cases h6 : k = 6
      · subst h6
        go_enter Try.func60, Try.ntmps60
        go_wp2
        go_ret
        exact ⟨rfl, rfl⟩
      · have q6 : (k == 6) = false := by simpa using h6
        by_cases h7 : k = 7
        · subst h7
          go_enter Try.func60, Try.ntmps60
          go_wp2
          go_ret
          exact ⟨rfl, rfl⟩
        · have q7 : (k == 7) = false := by simpa using h7
          have HK : Hid (kindIn k = 0) := by simp [kindIn, h3, h2, h6, h7, Hid]
          go_enter Try.func60, Try.ntmps60
          go_wp2
          go_ret
          rw [HK.out]
          exact ⟨rfl, rfl⟩

set_option maxHeartbeats 1000000 in
theorem placeInside_any (k f s p t : Int) (g : Bool) (q : Int) (w : World) (hq0 : 0 ≤ q) (hq1 : q ≤ 8) (hp0 : 0 ≤ p) (hp1 : p ≤ 63) :
    Calls Try.prog 63 #[.agg #[.int .i64 k, .int .i64 f, .int .i64 s, .int .i64 p, .int .i64 t, .bool g], .int .i64 q] w (RetI w (placeIn k p q)) := by
  have hb := Lib.hid ((Below.refl w.heap.size w).alloc (Nat.le_refl _) (.cells #[.int .i64 k, .int .i64 f, .int .i64 s, .int .i64 p, .int .i64 t, .bool g] 43))
  have HP : Hid (placeIn k p q = if kindIn k = 7 then q * 8 else if kindIn k = 8 then p + q else 0) := rfl
  go_enter Try.func63, Try.ntmps63
  go_wp2_with fail
  refine (kindInside_any k _).mono ?_
  rintro e w' ⟨rfl, rfl⟩
  generalize kindIn k = z at *
  by_cases h7 : z = 7
  · subst h7
    go_wp2_with fail
    go_ret
    exact RetI.mk (by rw [HP.out]; rfl) hb.out
  · have q7 : (z == 7) = false := by simpa using h7
    by_cases h8 : z = 8
    · subst h8
      go_wp2_with fail
      go_ret
      exact RetI.mk (by rw [HP.out]; rfl) hb.out
    · have q8 : (z == 8) = false := by simpa using h8
      go_wp2_with fail
      go_ret
      exact RetI.mk (by rw [HP.out, if_neg h7, if_neg h8]) hb.out

/-- Where the places of a table's slots begin, and how far apart they are. -/
def baseIn (kind place : Int) : Int := if kind = 8 then place else 0
def stepIn (kind : Int) : Int := if kind = 7 then 8 else if kind = 8 then 1 else 0
def insStep (xs : List Int) (size kind : Int) (l : List Cm) (c : Cm) : List Cm :=
  if c.good = true ∧ kindIn c.kind = kind then tabC xs size l kind c.target.toNat (baseIn kind c.place) (stepIn kind) else l
def insC (xs : List Int) (size kind : Int) (l : List Cm) : List Cm := l.foldl (insStep xs size kind) l

theorem place_base (k kind place q : Int) (h : kindIn k = kind) (hk : kind = 4 ∨ kind = 7 ∨ kind = 8) : placeIn k place q = baseIn kind place + stepIn kind * q := by
  unfold placeIn baseIn stepIn
  rw [h]
  rcases hk with rfl | rfl | rfl
  · simp
  · simp; omega
  · simp
theorem insStep_prefix {xs : List Int} {size kind : Int} (l : List Cm) (c : Cm) : l <+: insStep xs size kind l c := by
  unfold insStep; split
  · exact tabFold_prefix _ _ _ _ _ _ _ _
  · exact List.prefix_refl _
theorem insStep_length {xs : List Int} {size kind : Int} (l : List Cm) (c : Cm) : (insStep xs size kind l c).length ≤ l.length + 8 := by
  unfold insStep; split
  · exact tabC_length _ _ _ _ _ _ _
  · omega

/-- The words of one table. -/
def RetInside (w : World) (lo p : Nat) (A : Option Addr) (n cb : Nat) (size : Int) (g : Nat) (old l : List Cm) (e : Ending) (w' : World) : Prop :=
  e = .returned (.tuple #[]) ∧ RetL w lo p A n cb size g old l w'

set_option maxRecDepth 100000 in
set_option maxHeartbeats 8000000 in
theorem addInside_any (A : Option Addr) (n cb B : Nat) (xs : List Int) (size kind : Int) (p g cap lo : Nat) (l : List Cm) (w : World) (hr : Rd w B A n xs) (hn : n ≤ 2097152) (hnc : n ≤ cb) (hh : hasHead xs = true) (hl : l.length ≤ 1000)
    (hb : LBox w p A n cb size g l.length cap) (ho : OwV 43 6 w lo w.heap.size g l.length cap (l.flatMap cmV)) (hB : B ≤ p) (hpl : p < lo) (hlo : lo ≤ w.heap.size) (hok : ∀ c ∈ l, Ok6 xs c) (hkind : kind = 4 ∨ kind = 7 ∨ kind = 8) :
    Calls Try.prog 52 #[.pointer (some ⟨p, 0, none⟩), .int .i64 kind] w (RetInside w lo p A n cb size g l (insC xs size kind l)) := by
  have hgl := ho.lt
  have hgo := ho.low
  have HI := Lib.hid (hasHead_img hh)
  have HH := Lib.hid hh
  have HOk := Lib.hid hok
  have HKd := Lib.hid hkind
  have HRF : Hid (RetL w lo p A n cb size g l l w) := RetL.refl hb ho
  have HC : Hid (insC xs size kind l = l.foldl (insStep xs size kind) l) := rfl
  have p2 : w.cell? ⟨p, 2, none⟩ = some (.slice (some ⟨g, 0, none⟩) l.length cap) := hb.cell 2
  clear hh hok hkind hb ho
  go_enter Try.func52, Try.ntmps52
  go_wp2_with fail
  clear p2
  go_loopw [15] (fun i wr => ∃ k : Nat, k ≤ l.length ∧ i = .int .i64 k ∧ RetL w lo p A n cb size g l ((l.take k).foldl (insStep xs size kind) l) wr) (fun i _ => l.length - (intOf i).toNat)
  case atStart => exact ⟨0, Nat.zero_le _, rfl, HRF.out⟩
  case round =>
    obtain ⟨k, hk, rfl, hR⟩ := hrel
    by_cases hlt : k < l.length
    · obtain ⟨g', c', hb', ho', at', G', old'⟩ := hR
      have HT := Lib.hid (take_fold (insStep xs size kind) l l k hlt)
      have HLk := Lib.hid (foldl_length (insStep xs size kind) 8 insStep_length (l.take k) l)
      have HPk := Lib.hid (foldl_prefix (insStep xs size kind) insStep_prefix (l.take k) l)
      have hlk : ((l.take k).foldl (insStep xs size kind) l).length ≤ 90000 := by
        have h1 := HLk.out
        have h2 : (l.take k).length ≤ k := List.length_take_le _ _
        omega
      have hgd : l.getD k cm0 = l[k] := by simp [List.getD_eq_getElem?_getD, hlt]
      have hokk := HOk.out _ (List.getElem_mem hlt)
      have hce := cm_cells old' hlt
      rw [hgd] at hce
      clear hgd HLk
      generalize l[k] = x at *
      generalize (l.take k).foldl (insStep xs size kind) l = lk at *
      obtain ⟨xk, xf, xs', xp, xt, xg⟩ := x
      have e0 : wr.cell? ⟨g, k * 6, none⟩ = some (.int .i64 xk) := hce 0 (by omega)
      have e1 : wr.cell? ⟨g, k * 6 + 1, none⟩ = some (.int .i64 xf) := hce 1 (by omega)
      have e2 : wr.cell? ⟨g, k * 6 + 2, none⟩ = some (.int .i64 xs') := hce 2 (by omega)
      have e3 : wr.cell? ⟨g, k * 6 + 3, none⟩ = some (.int .i64 xp) := hce 3 (by omega)
      have e4 : wr.cell? ⟨g, k * 6 + 4, none⟩ = some (.int .i64 xt) := hce 4 (by omega)
      have e5 : wr.cell? ⟨g, k * 6 + 5, none⟩ = some (.bool xg) := hce 5 (by omega)
      clear hce
      have sr := G'.size
      have AL := (Below.refl wr.heap.size wr).alloc (Nat.le_refl _) (.cells #[.int .i64 xk, .int .i64 xf, .int .i64 xs', .int .i64 xp, .int .i64 xt, .bool xg] 43)
      have HAL : Hid (RetL w lo p A n cb size g l lk (wr.alloc (.cells #[.int .i64 xk, .int .i64 xf, .int .i64 xs', .int .i64 xp, .int .i64 xt, .bool xg] 43))) := RetL.below ⟨g', c', hb', ho', at', G', old'⟩ AL
      cases xg
      · have HE : Hid ((l.take (k + 1)).foldl (insStep xs size kind) l = lk) := by rw [HT.out]; simp [insStep, Hid]
        clear HT hokk
        go_wp2_with fail
        go_roundw
        case rel => exact ⟨k + 1, by omega, by go_num, by rw [HE.out]; exact HAL.out⟩
        case measure => simp [intOf]; omega
      · by_cases hkk : kindIn xk = kind
        · have hth : thereB xs xt = true := by
            rcases hokk.lead rfl with h1 | h1
            · have h2 : xk = 1 := h1.1
              rw [h2] at hkk
              have h3 : (0 : Int) = kind := hkk
              have := HKd.out
              omega
            · exact h1
          have hp0 : 0 ≤ xp := hokk.place0
          have hp1 : xp ≤ 63 := hokk.place1
          have hdk : (kindIn xk != kind) = false := by simpa using hkk
          have HPB := Lib.hid (fun q => place_base xk kind xp q hkk HKd.out)
          have hba : 0 ≤ baseIn kind xp ∧ baseIn kind xp ≤ 63 := by unfold baseIn; split <;> omega
          have hst : 0 ≤ stepIn kind ∧ stepIn kind ≤ 8 := by
            unfold stepIn
            split
            · omega
            · split <;> omega
          have HE : Hid ((l.take (k + 1)).foldl (insStep xs size kind) l = tabC xs size lk kind xt.toNat (baseIn kind xp) (stepIn kind)) := by rw [HT.out]; simp [insStep, Hid, hkk]
          generalize baseIn kind xp = base at *
          generalize stepIn kind = step at *
          obtain ⟨t1, t2⟩ := there_lt hth
          have hmany := manyN_le HI.out
          have HTB := Lib.hid (tableL_in HH.out hth)
          obtain ⟨τ, rfl⟩ := Int.eq_ofNat_of_zero_le (show 0 ≤ xt by omega)
          rw [Int.toNat_natCast] at HTB HE
          clear HT hokk hth t1 hkk
          have hra := (G'.rd hr hB (by omega) (by omega)).below (AL.mono (by omega))
          have hbo : BoxC (wr.alloc (.cells #[.int .i64 xk, .int .i64 xf, .int .i64 xs', .int .i64 xp, .int .i64 τ, .bool true] 43)) wr.heap.size ⟨xk, xf, xs', xp, τ, true⟩ := heap_alloc_new wr _
          have hba' := hb'.keep (AL.block p hb'.lt)
          have hoa : OwV 43 6 (wr.alloc (.cells #[.int .i64 xk, .int .i64 xf, .int .i64 xs', .int .i64 xp, .int .i64 τ, .bool true] 43)) lo (wr.alloc (.cells #[.int .i64 xk, .int .i64 xf, .int .i64 xs', .int .i64 xp, .int .i64 τ, .bool true] 43)).heap.size g' lk.length c' (lk.flatMap cmV) := ⟨(ho'.keep (AL.block g' ho'.lt)).own, Nat.lt_of_lt_of_le ho'.lt AL.size⟩
          have hza : wr.heap.size + 1 = (wr.alloc (.cells #[.int .i64 xk, .int .i64 xf, .int .i64 xs', .int .i64 xp, .int .i64 τ, .bool true] 43)).heap.size := by simp
          have hgl' := ho'.lt
          have hgo' := ho'.low
          go_wp2_with fail
          refine (kindInside_any xk _).mono ?_
          rintro e w' ⟨rfl, rfl⟩
          go_wp2_with fail
          generalize (wr.alloc (.cells #[.int .i64 xk, .int .i64 xf, .int .i64 xs', .int .i64 xp, .int .i64 τ, .bool true] 43)) = wa at *
          have pa0 : wa.cell? ⟨p, 0, none⟩ = some (.slice A n cb) := hba'.cell 0
          have qa4 : wa.cell? ⟨wr.heap.size, 4, none⟩ = some (.int .i64 τ) := hbo.cell 4
          have hpa : p < wa.heap.size := by omega
          have hqa : wr.heap.size < wa.heap.size := by omega
          have hrd : Rd wa.drew wa.drew.heap.size A n xs := hra.more (by show B ≤ wa.heap.size; omega)
          clear hdk
          go_region_held3 (fun w' => w'.cell? ⟨p, 0, none⟩ = some (.slice A n cb) ∧ w'.cell? ⟨wr.heap.size, 4, none⟩ = some (.int .i64 τ))
            (first
              | go_keep
              | (go_split_ands
                 refine ⟨?_, ?_⟩
                 · exact (b2.cell (p := ⟨p, 0, none⟩) hpa).trans (by assumption)
                 · exact (b2.cell (p := ⟨wr.heap.size, 4, none⟩) hqa).trans (by assumption)))
            ((go_at_call 61; refine (implTable_any A n cb xs τ wa.drew hrd hn hnc).mono ?_; rintro e w2 ⟨G, ng, cg, rfl, oG, b2⟩))
          replace b2 : Below wa.heap.size wa w2 := ⟨b2.os, b2.tape, b2.output, b2.size, b2.block⟩
          rw [HTB.out] at oG
          obtain rfl : 8 = ng := by have := oG.len; simpa [cl, f8_length] using this
          rcases oG.form with ⟨_, h0, _⟩ | ⟨gc, rfl, g1, g2, g3, g4⟩
          · omega
          have s2 : wa.heap.size ≤ w2.heap.size := b2.size
          have g1' : wa.heap.size ≤ gc := g1
          have HGC := Lib.hid (show ∀ j, j < 8 → w2.cell? ⟨gc, j, none⟩ = some (.int .i64 ((cl xs τ).getD j 0)) from fun j hj => oG.cell hj)
          have hb2 := hba'.keep (b2.block p hpa)
          have ho2 : OwV 43 6 w2 lo w2.heap.size g' lk.length c' (lk.flatMap cmV) := ⟨(hoa.keep (b2.block g' (by omega))).own, by omega⟩
          have hbo2 := hbo.keep (b2.block wr.heap.size hqa)
          have hr2 : Rd w2 B A n xs := hra.below (b2.mono (by omega))
          have HG2 : Hid (Grow2 w w2 p g) := (G'.below AL).below b2
          have HO2 : Hid (RdV 6 w2 w2.heap.size (some ⟨g, 0, none⟩) l.length (l.flatMap cmV)) := ((((old'.below AL).more AL.size).below b2).more b2.size)
          have HRF2 : Hid (RetL w2 lo p A n cb size g' lk lk w2) := RetL.refl hb2 ho2
          have HAT := Lib.hid at'
          clear hb2 ho2 hba' hoa hbo hra hrd pa0 qa4 oG b2 HAL AL old' G' hb' ho' at' e0 e1 e2 e3 e4 e5 HTB
          generalize wr.heap.size = qq at *
          go_wp2_with fail
          rw [show ((8 : Nat) : Int) = 8 from rfl]
          go_loopw [37] (fun i wr => ∃ j : Nat, j ≤ 8 ∧ i = .int .i64 j ∧ RetL w2 lo p A n cb size g' lk ((List.range j).foldl (tabStep xs size kind τ base step) lk) wr) (fun i _ => 8 - (intOf i).toNat)
          case atStart => exact ⟨0, by omega, rfl, HRF2.out⟩
          case round =>
            obtain ⟨j, hj, rfl, hR2⟩ := hrel
            by_cases hlj : j < 8
            · obtain ⟨g2', c2, hb2, ho2, at2, G2, old2⟩ := hR2
              have hcx : wr.cell? ⟨gc, j, none⟩ = some (.int .i64 ((cl xs τ).getD j 0)) := (World.cell?_of_block (w := w2) (G2.block gc (by omega) (by omega) (by omega))).trans (HGC.out j hlj)
              have hbq := (hbo2.keep (G2.block qq (by omega) (by omega) (by omega))).cell
              have q0 : wr.cell? ⟨qq, 0, none⟩ = some (.int .i64 xk) := hbq 0
              have q1 : wr.cell? ⟨qq, 1, none⟩ = some (.int .i64 xf) := hbq 1
              have q2 : wr.cell? ⟨qq, 2, none⟩ = some (.int .i64 xs') := hbq 2
              have q3 : wr.cell? ⟨qq, 3, none⟩ = some (.int .i64 xp) := hbq 3
              have q4 : wr.cell? ⟨qq, 4, none⟩ = some (.int .i64 τ) := hbq 4
              have q5 : wr.cell? ⟨qq, 5, none⟩ = some (.bool true) := hbq 5
              clear hbq
              have HT := Lib.hid (tabFold_succ xs size kind τ base step lk j)
              have HLe := Lib.hid (tabFold_length xs size kind τ base step lk j)
              have HPj := Lib.hid (tabFold_prefix xs size kind τ base step lk j)
              have hll : ((List.range j).foldl (tabStep xs size kind τ base step) lk).length ≤ 100000 := by have := HLe.out; omega
              have HRk : Hid (RetL w2 lo p A n cb size g' lk ((List.range j).foldl (tabStep xs size kind τ base step) lk) wr) := ⟨g2', c2, hb2, ho2, at2, G2, old2⟩
              generalize (List.range j).foldl (tabStep xs size kind τ base step) lk = lj at *
              have HS : Hid (tabStep xs size kind τ base step lj j = if targetOf ((cl xs τ).getD j 0) ≠ 0 then addC xs size lj ⟨kind, τ, j, base + step * j, targetOf ((cl xs τ).getD j 0), false⟩ else lj) := rfl
              generalize (cl xs τ).getD j 0 = x at hcx HS
              have HPj2 := Lib.hid (HPB.out (j : Int))
              go_wp2_with fail
              refine (implTarget_any _ _).mono ?_
              rintro e w' ⟨rfl, rfl⟩
              generalize targetOf x = t at *
              by_cases h0 : t = 0
              · subst h0
                have hd : ((0 : Int) != 0) = false := by simp
                have HEj : Hid ((List.range (j + 1)).foldl (tabStep xs size kind τ base step) lk = lj) := by rw [HT.out, HS.out]; simp [Hid]
                clear HT HS
                go_wp2_with fail
                go_roundw
                case rel => exact ⟨j + 1, by omega, by go_num, by rw [HEj.out]; exact HRk.out⟩
                case measure => simp [intOf]; omega
              · have hd : (t != 0) = true := by simpa using h0
                have HEj : Hid ((List.range (j + 1)).foldl (tabStep xs size kind τ base step) lk = addC xs size lj ⟨kind, τ, j, base + step * j, t, false⟩) := by rw [HT.out, HS.out]; simp [Hid, h0]
                clear HT HS
                go_wp2_with fail
                refine (placeInside_any xk xf xs' xp τ true j wr (by omega) (by omega) hp0 hp1).mono ?_
                rintro e w3 ⟨rfl, b3⟩
                rw [HPj2.out]
                have s3 := b3.size
                have sr2 := G2.size
                have q4' : w3.cell? ⟨qq, 4, none⟩ = some (.int .i64 τ) := (b3.cell (p := ⟨qq, 4, none⟩) (by show qq < _; omega)).trans q4
                have hb3 := hb2.keep (b3.block p hb2.lt)
                have ho3 : OwV 43 6 w3 lo w3.heap.size g2' lj.length c2 (lj.flatMap cmV) := ⟨(ho2.keep (b3.block g2' ho2.lt)).own, Nat.lt_of_lt_of_le ho2.lt b3.size⟩
                have hr3 := (G2.rd hr2 hB (by omega) (by omega)).below (b3.mono (by omega))
                clear q0 q1 q2 q3 q4 q5 hcx
                obtain ⟨pl, hpl'⟩ : ∃ pl, pl = base + step * (j : Int) := ⟨_, rfl⟩
                rw [← hpl'] at HEj ⊢
                clear hpl' HPj2
                go_wp2_with fail
                refine (add_any A n cb xs size p g2' c2 lo lj ⟨kind, τ, j, pl, t, false⟩ w3 (hr3.more (by omega)) hn HI.out hll hb3 ho3 hpl (by omega)).mono ?_
                rintro e w4 ⟨rfl, hL4⟩
                have HL4 : Hid (RetL w2 lo p A n cb size g' lk (addC xs size lj ⟨kind, τ, j, pl, t, false⟩) w4) := RetL.next G2 at2 old2 HPj.out (by omega) (by omega) (hL4.after b3)
                clear hL4
                go_wp2_with fail
                go_roundw
                case rel => exact ⟨j + 1, by omega, by go_num, by rw [HEj.out]; exact HL4.out⟩
                case measure => simp [intOf]; omega
            · obtain rfl : j = 8 := by omega
              have hR3 : RetL w lo p A n cb size g l (tabC xs size lk kind τ base step) wr := RetL.next HG2.out HAT.out HO2.out HPk.out (by omega) (by omega) hR2
              have HR3 := Lib.hid hR3
              clear hR3 hR2
              go_wp2_with fail
              go_roundw
              case rel => exact ⟨k + 1, by omega, by go_num, by rw [HE.out]; exact HR3.out⟩
              case measure => simp [intOf]; omega
        · have HE : Hid ((l.take (k + 1)).foldl (insStep xs size kind) l = lk) := by rw [HT.out]; simp [insStep, Hid, hkk]
          have hdk : (kindIn xk != kind) = true := by simpa using hkk
          clear HT hokk
          go_wp2_with fail
          refine (kindInside_any xk _).mono ?_
          rintro e w' ⟨rfl, rfl⟩
          go_wp2_with fail
          go_roundw
          case rel => exact ⟨k + 1, by omega, by go_num, by rw [HE.out]; exact HAL.out⟩
          case measure => simp [intOf]; omega
    · obtain rfl : k = l.length := by omega
      go_wp2_with fail
      go_end0
      rw [HC.out]
      rw [List.take_length] at hR
      exact ⟨rfl, hR⟩

end Go.Proofs.Ytpnnbenehajipaa
