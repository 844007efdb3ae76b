/- Cleared (chapter 12): the model's Go function computes it. -/
import Derived.Test.YtpnnbenehajipaaClh
namespace Go.Proofs.Ytpnnbenehajipaa
open Go.RowKit

theorem kind5_tab {xs : List Int} {size : Int} {l : List Cm} {kind : Int} {frm : Nat} {place step t : Int} (hk : kind ≠ 5) (hl : ∀ c ∈ l, c.kind = 5 → c.target = t) : ∀ c ∈ tabC xs size l kind frm place step, c.kind = 5 → c.target = t := by
  unfold tabC
  refine foldl_all (fun c : Cm => c.kind = 5 → c.target = t) (fun _ => True) _ (fun l i hl _ => ?_) _ _ hl (fun _ _ => trivial)
  unfold tabStep
  split
  · exact addC_all _ hl (fun h => absurd h hk)
  · exact hl
theorem kind5_shots (xs : List Int) : ∀ c ∈ claimsC xs, c.kind = 5 → c.target = (headOf xs).shots := by
  have h2 : ∀ c ∈ c2C xs (headOf xs), c.kind = 5 → c.target = (headOf xs).shots := by
    intro c hc
    unfold c2C c1C addC at hc
    simp at hc
    rcases hc with rfl | rfl | rfl <;> simp
  have h3 : ∀ c ∈ c3C xs (headOf xs), c.kind = 5 → c.target = (headOf xs).shots := by
    unfold c3C; split
    · exact kind5_tab (by omega) h2
    · exact h2
  have h4 : ∀ c ∈ c4C xs (headOf xs), c.kind = 5 → c.target = (headOf xs).shots := by
    have h5 : ∀ c ∈ addC xs (headOf xs).size (c3C xs (headOf xs)) ⟨5, 0, 0, 0, (headOf xs).shots, false⟩, c.kind = 5 → c.target = (headOf xs).shots := addC_all _ h3 (fun _ => rfl)
    unfold c4C shotsC; split
    · exact h3
    · split
      · exact foldl_all (fun c : Cm => c.kind = 5 → c.target = (headOf xs).shots) (fun _ => True) _ (fun l i hl _ => addC_all _ hl (fun h => by simp at h)) _ _ h5 (fun _ _ => trivial)
      · exact h5
  have h5 : ∀ c ∈ c5C xs (headOf xs), c.kind = 5 → c.target = (headOf xs).shots := by
    unfold c5C
    exact foldl_all (fun c : Cm => c.kind = 5 → c.target = (headOf xs).shots) (fun _ => True) _ (fun l i hl _ => kind5_tab (by omega) hl) _ _ h4 (fun _ _ => trivial)
  unfold claimsC c6C
  refine foldl_all (fun c : Cm => c.kind = 5 → c.target = (headOf xs).shots) (fun _ => True) _ (fun l c hl _ => ?_) _ _ h5 (fun _ _ => trivial)
  unfold datStep
  split
  · exact kind5_tab (by omega) hl
  · exact hl
theorem shots_there {xs : List Int} (h : shotsOk (claimsC xs) = true) : thereB xs (headOf xs).shots = true := by
  unfold shotsOk at h
  rw [List.any_eq_true] at h
  obtain ⟨c, hc, hk⟩ := h
  simp at hk
  have := kind5_shots xs c hc hk.2
  rcases (claims_ok xs c hc).lead hk.1 with h1 | h1
  · omega
  · rw [this] at h1; exact h1
/-- Where the last loop stands. -/
def ClrRel (w6 : World) (lo hi g n c : Nat) (l : List Cm) (z : List Int) (i : Value) (wr : World) : Prop :=
  ∃ k : Nat, k ≤ l.length ∧ i = .int .i64 k ∧ Ow wr lo hi (some ⟨g, 0, none⟩) n c ((l.take k).foldl clrStep z) ∧ w6.grownBy wr (some g)

set_option maxRecDepth 100000 in
set_option maxHeartbeats 8000000 in
theorem specClr_any (A : Option Addr) (n cb : Nat) (xs : List Int) (w : World) (hr : Rd w w.heap.size A n xs) (hh : hasHead xs = true) :
    Calls Try.prog 11 #[.slice A n cb] w (Ret w (clrC xs)) := by
  have hlen := hasHead_len hh
  have hn : n ≤ 512 := by have := hr.len; omega
  have hmany := manyN_le (hasHead_img hh)
  have hall := headB_all (hasHead_ok hh)
  have HI := Lib.hid (headIn_yes hh)
  have HH := Lib.hid hh
  have HC : Hid (clrC xs = setCl ((claimsC xs).foldl clrStep (if shotsOk (claimsC xs) = true then keepL (headOf xs) (keepOf xs (claimsC xs)) (whole xs) else whole xs)) 0 (hdW ⟨(headOf xs).size, firstK (claimsC xs) (headOf xs).first, refsK (claimsC xs) (headOf xs).refs, if ((keepOf xs (claimsC xs)).length / 2 : Nat) = 0 then 0 else (headOf xs).shots, ((keepOf xs (claimsC xs)).length / 2 : Nat)⟩)) := rfl
  have HTh := Lib.hid (fun h => shots_there (xs := xs) h)
  have HOk := Lib.hid (claims_ok xs)
  have hp : 0 < manyN xs := by unfold manyN; omega
  clear hh
  go_enter Try.func11, Try.ntmps11
  go_wp2_with fail
  refine (specHeadIn_any _ _ _ xs _ hr (by omega)).mono ?_
  rintro e w1 ⟨rfl, b1⟩
  rw [HI.out]
  generalize headOf xs = h at *
  obtain ⟨s, f, r, u, m⟩ := h
  simp only at hall
  unfold hdV
  have b2 := b1.alloc b1.size (.cells #[.int .i64 s, .int .i64 f, .int .i64 r, .int .i64 u, .int .i64 m] 28)
  have hx0 : HBox (w1.alloc (.cells #[.int .i64 s, .int .i64 f, .int .i64 r, .int .i64 u, .int .i64 m] 28)) w1.heap.size ⟨s, f, r, u, m⟩ := HBox.new w1 ⟨s, f, r, u, m⟩
  have hz : (w1.alloc (.cells #[.int .i64 s, .int .i64 f, .int .i64 r, .int .i64 u, .int .i64 m] 28)).heap.size = w1.heap.size + 1 := by simp
  go_wp2_with fail
  generalize (w1.alloc (.cells #[.int .i64 s, .int .i64 f, .int .i64 r, .int .i64 u, .int .i64 m] 28)) = w2 at *
  refine (specClaims_any A n cb xs w2 ((hr.below b2).more b2.size) (by omega) HH.out).mono ?_
  rintro e w3 ⟨g, cg, rfl, oG, b3⟩
  have s3 := b3.size
  have b03 := below_more b2 b3 b2.size
  have hgl := oG.low
  have hgt := oG.lt
  have hx3 := hx0.keep (b3.block _ (by omega))
  have hll := claims_length xs
  have HSl : Hid (∀ c ∈ claimsC xs, c.kind = 6 → 0 ≤ c.slot ∧ c.slot < (shotsL xs).length) := fun c hc hk => ⟨(HOk.out c hc).slot0, (HOk.out c hc).shot hk⟩
  have RD := Lib.hid oG.rd
  go_wp2_with fail
  refine (specKept_any A n cb g cg xs (claimsC xs) w3 ((hr.below b03).more b03.size) (by omega) RD.out (by omega) HSl.out).mono ?_
  rintro e w4 ⟨gk, nk, ck, rfl, hck, ok4, b4⟩
  have s4 := b4.size
  have b04 := below_more b03 b4 b03.size
  have hx4 := hx3.keep (b4.block _ (by omega))
  have RD4 := Lib.hid (RD.out.below b4)
  have hnk := ok4.len
  have hkl := keepOf_length xs (claimsC xs)
  go_wp2_with fail
  refine (specWhole_any A n cb xs w4 ((hr.below b04).more b04.size) (by omega)).mono ?_
  rintro e w5 ⟨go, no, co, rfl, hco, o5, b5⟩
  have s5 := b5.size
  have b05 := below_more b04 b5 b04.size
  have hx5 := hx4.keep (b5.block _ (by omega))
  have RD5 := Lib.hid ((RD4.out.more (by omega : w3.heap.size ≤ w4.heap.size)).below b5)
  have rk5 := ok4.rd.below b5
  obtain rfl : manyN xs * 8 = no := by have := o5.len; rw [whole_length] at this; exact this
  have hgo : w4.heap.size ≤ go ∧ go < w5.heap.size := by
    rcases o5.form with ⟨h, _⟩ | ⟨x, hx, h1, h2, _⟩
    · cases h
    · injection hx with hx; injection hx with hx; omega
  have k0 : w5.cell? ⟨w1.heap.size, 0, none⟩ = some (.int .i64 s) := hx5.cell 0
  have k1 : w5.cell? ⟨w1.heap.size, 1, none⟩ = some (.int .i64 f) := hx5.cell 1
  have k2 : w5.cell? ⟨w1.heap.size, 2, none⟩ = some (.int .i64 r) := hx5.cell 2
  have k3 : w5.cell? ⟨w1.heap.size, 3, none⟩ = some (.int .i64 u) := hx5.cell 3
  have k4 : w5.cell? ⟨w1.heap.size, 4, none⟩ = some (.int .i64 m) := hx5.cell 4
  have hb1 := b1.size
  have hb2 := b2.size
  clear b1 b2 b3 b4 oG hx0 hx3 hx4 b03 b04 RD RD4
  generalize claimsC xs = l at *
  obtain ⟨kw, hkw⟩ : ∃ kw, kw = keepOf xs l := ⟨_, rfl⟩
  rw [← hkw] at HC ok4 rk5 hnk hkl
  have HKW := Lib.hid hkw
  clear hkw
  go_wp2_with fail
  refine (specHead12_any g cg l ⟨s, f, r, u, m⟩ ((nk : Int) / 2) w5 (RD5.out.more (by omega)) (by omega)).mono ?_
  rintro e w6 ⟨rfl, b6⟩
  simp only
  have HQ : Hid ((kw.length / 2 : Nat) = ((nk / 2 : Nat))) := by rw [hnk]; exact rfl
  obtain ⟨U, hU⟩ : ∃ U : Int, (if (nk : Int) / 2 = 0 then 0 else u) = U := ⟨_, rfl⟩
  have HX : Hid (clrC xs = setCl (l.foldl clrStep (if shotsOk l = true then keepL ⟨s, f, r, u, m⟩ kw (whole xs) else whole xs)) 0 (hdW ⟨s, firstK l f, refsK l r, U, (nk : Int) / 2⟩)) := by
    rw [HC.out, HQ.out, ← hU]
    have e1 : ((nk / 2 : Nat) : Int) = (nk : Int) / 2 := by omega
    have e2 : (if (nk / 2 : Nat) = 0 then (0 : Int) else u) = (if (nk : Int) / 2 = 0 then 0 else u) := by
      by_cases h0 : nk / 2 = 0
      · rw [if_pos h0, if_pos (by omega)]
      · rw [if_neg h0, if_neg (by omega)]
    rw [e2, e1]
    exact rfl
  rw [hU]
  clear hU HC HQ k0 k1 k2 k3 k4
  generalize firstK l f = F at *
  generalize refsK l r = R at *
  generalize (nk : Int) / 2 = Q at *
  unfold hdV
  have b06 := below_more b05 b6 b05.size
  have s6 := b6.size
  have hx6 := hx5.keep (b6.block _ (by omega))
  have o6 := o5.below b6 (Nat.le_refl _)
  have rk6 := rk5.below (b6.mono (by omega))
  have RD6 := Lib.hid (RD5.out.below (b6.mono (by omega)))
  have b07 := b06.alloc b06.size (.cells #[.int .i64 s, .int .i64 F, .int .i64 R, .int .i64 U, .int .i64 Q] 28)
  have y7 : HBox (w6.alloc (.cells #[.int .i64 s, .int .i64 F, .int .i64 R, .int .i64 U, .int .i64 Q] 28)) w6.heap.size ⟨s, F, R, U, Q⟩ := HBox.new w6 ⟨s, F, R, U, Q⟩
  have al7 := (Below.refl w6.heap.size w6).alloc (Nat.le_refl _) (.cells #[.int .i64 s, .int .i64 F, .int .i64 R, .int .i64 U, .int .i64 Q] 28)
  have hx7 := hx6.keep (al7.block _ (by have := hx6.lt; omega))
  have o7 := o6.below al7 (by omega)
  have rk7 := rk6.below (al7.mono (by omega))
  have RD7 := Lib.hid (RD6.out.below (al7.mono (by omega)))
  have hz7 : (w6.alloc (.cells #[.int .i64 s, .int .i64 F, .int .i64 R, .int .i64 U, .int .i64 Q] 28)).heap.size = w6.heap.size + 1 := by simp
  have k0 : (w6.alloc (.cells #[.int .i64 s, .int .i64 F, .int .i64 R, .int .i64 U, .int .i64 Q] 28)).cell? ⟨w1.heap.size, 0, none⟩ = some (.int .i64 s) := hx7.cell 0
  have k1 : (w6.alloc (.cells #[.int .i64 s, .int .i64 F, .int .i64 R, .int .i64 U, .int .i64 Q] 28)).cell? ⟨w1.heap.size, 1, none⟩ = some (.int .i64 f) := hx7.cell 1
  have k2 : (w6.alloc (.cells #[.int .i64 s, .int .i64 F, .int .i64 R, .int .i64 U, .int .i64 Q] 28)).cell? ⟨w1.heap.size, 2, none⟩ = some (.int .i64 r) := hx7.cell 2
  have k3 : (w6.alloc (.cells #[.int .i64 s, .int .i64 F, .int .i64 R, .int .i64 U, .int .i64 Q] 28)).cell? ⟨w1.heap.size, 3, none⟩ = some (.int .i64 u) := hx7.cell 3
  have k4 : (w6.alloc (.cells #[.int .i64 s, .int .i64 F, .int .i64 R, .int .i64 U, .int .i64 Q] 28)).cell? ⟨w1.heap.size, 4, none⟩ = some (.int .i64 m) := hx7.cell 4
  clear o5 o6 rk5 rk6 ok4 RD5 RD6 hx5 hx6 b05 b06 b5 b6 al7
  cases hso : shotsOk l
  case' false =>
    have HZ1 : Hid (clrC xs = setCl (l.foldl clrStep (whole xs)) 0 (hdW ⟨s, F, R, U, Q⟩)) := by rw [HX.out, hso]; exact rfl
    clear HX
    go_wp2_with fail
    generalize (w6.alloc (.cells #[.int .i64 s, .int .i64 F, .int .i64 R, .int .i64 U, .int .i64 Q] 28)) = w7 at *
    obtain ⟨z, hzz⟩ : ∃ z, z = whole xs := ⟨_, rfl⟩
    rw [← hzz] at HZ1 o7
    have HZZ : Hid (z.length = manyN xs * 8) := by rw [hzz]; exact whole_length xs
    clear hzz
    obtain ⟨w8, h78⟩ : ∃ w8, w8 = w7 := ⟨_, rfl⟩
    rw [← h78] at o7 y7 b07 RD7 hz7 ⊢
    have s8 : w6.heap.size + 1 ≤ w8.heap.size := by omega
    clear h78 hz7 k0 k1 k2 k3 k4 hx7 rk7
  case' true =>
    have hth := HTh.out hso
    have htl := there_lt hth
    have HZ1 : Hid (clrC xs = setCl (l.foldl clrStep (keepL ⟨s, f, r, u, m⟩ kw (whole xs))) 0 (hdW ⟨s, F, R, U, Q⟩)) := by rw [HX.out, hso]; exact rfl
    clear HX
    go_wp2_with fail
    generalize (w6.alloc (.cells #[.int .i64 s, .int .i64 F, .int .i64 R, .int .i64 U, .int .i64 Q] 28)) = w7 at *
    refine (specKeep_any go (manyN xs * 8) co w4.heap.size w5.heap.size nk ck (some ⟨gk, 0, none⟩) (whole xs) kw ⟨s, f, r, u, m⟩ w7 o7 rk7 hgo.1 (by simp only; omega) (by simp only; omega) (by simp only; omega) (by simp only; omega) (by omega) (by omega)).mono ?_
    rintro e w8 ⟨rfl, o8, g8⟩
    have y7 := y7.keep (g8.block _ (by omega) (fun e => by injection e with e; omega))
    have b07 := b07.grown g8 b07.size (fun q e => by cases e; omega)
    have RD7 := Lib.hid (RD7.out.grown g8 (by show g < _; omega) (by show g ≠ go; omega))
    have s8 : w6.heap.size + 1 ≤ w8.heap.size := by have := g8.size; omega
    obtain ⟨z, hzz⟩ : ∃ z, z = keepL ⟨s, f, r, u, m⟩ kw (whole xs) := ⟨_, rfl⟩
    have HZZ : Hid (z.length = manyN xs * 8) := by rw [hzz]; exact o8.len ▸ rfl
    rw [← hzz] at HZ1 o8
    have o7 := o8
    clear hzz o8 g8 hz7 k0 k1 k2 k3 k4 hx7 rk7 hth htl
    go_wp2_with fail
  all_goals
    have HY := Lib.hid y7
    have HB := Lib.hid b07
    clear y7 b07 hso HTh
    go_loopw [10] (fun i wr => ClrRel w8 w4.heap.size w5.heap.size go (manyN xs * 8) co l z i wr) (fun i _ => l.length - (intOf i).toNat)
    case atStart => exact ⟨0, Nat.zero_le _, rfl, o7, grown_refl _ _⟩
    case round =>
      obtain ⟨k, hk, rfl, ho, hg⟩ := hrel
      have sr := hg.size
      by_cases hlt : k < l.length
      · have hce := cm_cells (RD7.out.grown hg (by show g < _; omega) (by show g ≠ go; omega)) hlt
        have hgd : l.getD k cm0 = l[k] := by simp [List.getD_eq_getElem?_getD, hlt]
        rw [hgd] at hce
        have HS := Lib.hid (take_fold clrStep l z k hlt)
        have HO := Lib.hid (HOk.out _ (List.getElem_mem hlt))
        clear hgd
        generalize (l.take k).foldl clrStep z = fs at *
        generalize l[k] = x at *
        obtain ⟨xk, xf, xs', xp, xt, xg⟩ := x
        have e0 : wr.cell? ⟨g, k * 6, none⟩ = some (.int .i64 xk) := hce 0 (by omega)
        have e1 : wr.cell? ⟨g, k * 6 + 1, none⟩ = some (.int .i64 xf) := hce 1 (by omega)
        have e2 : wr.cell? ⟨g, k * 6 + 2, none⟩ = some (.int .i64 xs') := hce 2 (by omega)
        have e3 : wr.cell? ⟨g, k * 6 + 3, none⟩ = some (.int .i64 xp) := hce 3 (by omega)
        have e4 : wr.cell? ⟨g, k * 6 + 4, none⟩ = some (.int .i64 xt) := hce 4 (by omega)
        have e5 : wr.cell? ⟨g, k * 6 + 5, none⟩ = some (.bool xg) := hce 5 (by omega)
        clear hce
        have hoa := Lib.hid (ho.keep (w' := wr.alloc (.cells #[.int .i64 xk, .int .i64 xf, .int .i64 xs', .int .i64 xp, .int .i64 xt, .bool xg] 43)) (fun q _ _ hq => Below.heap_alloc _ _ _ hq))
        have hga := Lib.hid (grown_trans hg (World.grownBy_alloc wr (.cells #[.int .i64 xk, .int .i64 xf, .int .i64 xs', .int .i64 xp, .int .i64 xt, .bool xg] 43) (some go)))
        cases xg
        · by_cases hkk : xk = 4 ∨ 7 ≤ xk
          · have HE : Hid ((l.take (k + 1)).foldl clrStep z = fs.set (xf.toNat * 8 + xs'.toNat) 0) := by
              rw [HS.out]
              show clrStep fs _ = _
              unfold clrStep lzB
              exact if_pos (by rcases hkk with h | h <;> simp [h])
            have hk8 := HO.out.kind1
            have hfr := HO.out.from_ (by simp only at hk8 ⊢; omega)
            have hs0 := HO.out.slot0
            have hs1 := HO.out.slot1
            simp only at hfr hs0 hs1
            obtain ⟨t1, t2⟩ := there_lt hfr
            obtain ⟨τ, rfl⟩ := Int.eq_ofNat_of_zero_le (show 0 ≤ xf by omega)
            obtain ⟨σ, rfl⟩ := Int.eq_ofNat_of_zero_le hs0
            rw [Int.toNat_natCast, Int.toNat_natCast] at HE
            have hidx : τ * 8 + σ < manyN xs * 8 := by omega
            have hcc := ho.cell hidx
            have hff := ho.free (τ * 8 + σ)
            have HSt := Lib.hid (ho.set (τ * 8 + σ) 0)
            have n6a : (0 : Int) ≤ (τ : Int) * 8 + (σ : Int) := by omega
            have n6b : (τ : Int) * 8 + (σ : Int) < (manyN xs : Int) * 8 := by omega
            have n6c : ((τ : Int) * 8 + (σ : Int)).toNat = τ * 8 + σ := by omega
            have n6d : (τ : Int) * 8 + (σ : Int) < ((manyN xs * 8 : Nat) : Int) := by omega
            have hgw := ow_lt ho
            clear HS HO hfr hs0 hk8
            generalize fs.getD (τ * 8 + σ) 0 = v0 at *
            have fin : Hid (ClrRel w8 w4.heap.size w5.heap.size go (manyN xs * 8) co l z (.int .i64 ((k + 1 : Nat) : Int)) ((wr.setCell ⟨go, τ * 8 + σ, none⟩ (.int .i64 0)).alloc (.cells #[.int .i64 xk, .int .i64 τ, .int .i64 σ, .int .i64 xp, .int .i64 xt, .bool false] 43))) := by
              obtain ⟨h1, h2⟩ := HSt.out
              refine ⟨k + 1, by omega, rfl, ?_, grown_trans hg (grown_trans h2 (World.grownBy_alloc _ _ _))⟩
              rw [HE.out]
              exact h1.keep (fun q _ _ hq => Below.heap_alloc _ _ _ hq)
            rcases (show xk < 7 ∨ 7 ≤ xk by omega) with h7 | h7
            · obtain rfl : xk = 4 := by omega
              have d4 : ((4 : Int) == 4) = true := by simp
              clear hkk
              go_wp2_with fail
              go_roundw
              case rel => exact fin.out
              case measure => simp [intOf]; omega
            · have d4 : (xk == 4) = false := by simp; omega
              have d7 : decide ((7 : Int) ≤ xk) = true := by simpa using h7
              clear hkk
              go_wp2_with fail
              go_roundw
              case rel => exact fin.out
              case measure => simp [intOf]; omega
          · have HE : Hid ((l.take (k + 1)).foldl clrStep z = fs) := by
              rw [HS.out]
              show clrStep fs _ = _
              unfold clrStep lzB
              exact if_neg (by simp; omega)
            have d4 : (xk == 4) = false := by simp; omega
            have d7 : decide ((7 : Int) ≤ xk) = false := by simp; omega
            clear HS HO hkk
            go_wp2_with fail
            go_roundw
            case rel => exact ⟨k + 1, by omega, by go_num, by rw [HE.out]; exact hoa.out, hga.out⟩
            case measure => simp [intOf]; omega
        · have HE : Hid ((l.take (k + 1)).foldl clrStep z = fs) := by rw [HS.out]; exact rfl
          clear HS HO
          go_wp2_with fail
          go_roundw
          case rel => exact ⟨k + 1, by omega, by go_num, by rw [HE.out]; exact hoa.out, hga.out⟩
          case measure => simp [intOf]; omega
      · obtain rfl : k = l.length := by omega
        rw [List.take_length] at ho
        have hyr := HY.out.keep (hg.block _ (by omega) (fun e => by injection e with e; omega))
        have q0 : wr.cell? ⟨w6.heap.size, 0, none⟩ = some (.int .i64 s) := hyr.cell 0
        have q1 : wr.cell? ⟨w6.heap.size, 1, none⟩ = some (.int .i64 F) := hyr.cell 1
        have q2 : wr.cell? ⟨w6.heap.size, 2, none⟩ = some (.int .i64 R) := hyr.cell 2
        have q3 : wr.cell? ⟨w6.heap.size, 3, none⟩ = some (.int .i64 U) := hyr.cell 3
        have q4 : wr.cell? ⟨w6.heap.size, 4, none⟩ = some (.int .i64 Q) := hyr.cell 4
        have br := HB.out.grown hg HB.out.size (fun q e => by cases e; omega)
        clear hyr
        go_wp2_with fail
        refine (specHdWords_any ⟨s, F, R, U, Q⟩ wr).mono ?_
        rintro e w9 ⟨g9, n9, c9, rfl, hc9, o9, b9⟩
        obtain rfl : 8 = n9 := o9.len
        have b09 := below_more br b9 br.size
        have s9 := b9.size
        go_wp2_with fail
        refine (specWith_any go 0 (manyN xs * 8) co 0 (l.foldl clrStep z) (hdW ⟨s, F, R, U, Q⟩) (some ⟨g9, 0, none⟩) c9 w9 ((ho.below b9 (by omega)).rd.more (by omega)) o9.rd hco (by omega) (by omega) (by omega)).mono ?_
        rintro e w10 ⟨G, ng, cg', rfl, oG, b10⟩
        go_wp2_with fail
        go_ret
        rw [HZ1.out]
        exact ⟨G, ng, cg', rfl, oG.more b09.size (Nat.le_refl _), below_more b09 b10 b09.size⟩

theorem specCleared_any (A : Option Addr) (n c : Nat) (xs : List Int) (w : World) (h : Rd w w.heap.size A n xs) (hn : n ≤ 2097152) :
    Calls Try.prog 4 #[.slice A n c] w (Ret w (clearedL xs)) := by
  go_enter Try.func4, Try.ntmps4
  go_wp2_with fail
  refine (specHeadIn_any _ _ _ xs _ h hn).mono ?_
  rintro e w1 ⟨rfl, b1⟩
  generalize hr : headIn xs = r
  obtain ⟨⟨s, f, r, u, m⟩, is⟩ := r
  have HR := Lib.hid hr
  clear hr
  unfold hdV
  have b2 := b1.alloc b1.size (.cells #[.int .i64 s, .int .i64 f, .int .i64 r, .int .i64 u, .int .i64 m] 28)
  cases is
  · have HN : Hid (clearedL xs = []) := by unfold clearedL; rw [(headIn_false HR.out).1]; exact rfl
    go_wp2_with fail
    go_ret
    rw [HN.out]
    exact Ret.emptyAt _ (by simp) b2
  · have HN : Hid (clearedL xs = clrC xs) := by unfold clearedL; rw [(headIn_true HR.out).1]; exact rfl
    go_wp2_with fail
    refine (specClr_any A n c xs _ ((h.below b2).more b2.size) (headIn_true HR.out).1).mono ?_
    rintro e w3 ⟨G, ng, cg, rfl, oG, b3⟩
    go_wp2_with fail
    go_ret
    rw [HN.out]
    exact ⟨G, ng, cg, rfl, oG.more b2.size (Nat.le_refl _), below_more b2 b3 b2.size⟩
end Go.Proofs.Ytpnnbenehajipaa
