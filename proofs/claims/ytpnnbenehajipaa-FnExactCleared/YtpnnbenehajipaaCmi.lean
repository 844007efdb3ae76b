/- Claims (chapter 6): the program's side: what is in the way, whether one would be good. -/
import Derived.Test.YtpnnbenehajipaaLawCm
import Derived.Test.YtpnnbenehajipaaTbi
import Derived.BigRegion
namespace Go.Proofs.Ytpnnbenehajipaa
open Go.RowKit

/-- Is x, of the same target and good, in the way of c? -/
def wayB (x c : Cm) : Bool :=
  if c.kind = 7 then ((x.frm == c.frm || x.slot != c.slot) || x.kind != 7) else (if c.kind = 8 then x.kind != 8 else true)
theorem bars_way (x c : Cm) : barsB x c = (x.good && (x.target == c.target && wayB x c)) := by
  unfold barsB wayB
  cases x.good
  · simp
  by_cases ht : x.target = c.target
  · rw [if_pos ⟨rfl, ht⟩]
    have e : (x.target == c.target) = true := by simpa using ht
    rw [e, Bool.true_and, Bool.true_and]
    by_cases h7 : c.kind = 7
    · by_cases k7 : x.kind = 7
      · simp [h7, k7]
      · simp [h7, k7]
    · by_cases h8 : c.kind = 8
      · by_cases k8 : x.kind = 8
        · simp [h8, k8]
        · simp [h8, k8]
      · simp [h7, h8]
  · rw [if_neg (fun h => ht h.2)]
    have e : (x.target == c.target) = false := by simpa using ht
    rw [e]
    rfl

set_option maxHeartbeats 2000000 in
theorem way_any (x c : Cm) (w : World) : Calls Try.prog 66 #[cmA x, cmA c] w (RetB w (wayB x c)) := by
  obtain ⟨k, f, s, p, t, g⟩ := x
  obtain ⟨k', f', s', p', t', g'⟩ := c
  have hb := Lib.hid (((Below.refl w.heap.size w).alloc (Nat.le_refl _) (.cells #[.int .i64 k, .int .i64 f, .int .i64 s, .int .i64 p, .int .i64 t, .bool g] 43)).alloc (by simp) (.cells #[.int .i64 k', .int .i64 f', .int .i64 s', .int .i64 p', .int .i64 t', .bool g'] 43))
  unfold cmA
  by_cases hk : k' = 7
  · subst hk
    by_cases hf : f = f'
    · subst hf
      have q2 : (f == f) = true := by simp
      go_enter Try.func66, Try.ntmps66
      go_wp2
      go_ret
      exact RetB.mk (by simp [wayB]) hb.out
    · have q2 : (f == f') = false := by simpa using hf
      by_cases hs : s = s'
      · subst hs
        have q3 : (s != s) = false := by simp
        go_enter Try.func66, Try.ntmps66
        go_wp2
        go_ret
        exact RetB.mk (by simp [wayB, hf]) hb.out
      · have q3 : (s != s') = true := by simpa using hs
        go_enter Try.func66, Try.ntmps66
        go_wp2
        go_ret
        exact RetB.mk (by simp [wayB, hs]) hb.out
  · have q4 : (k' == 7) = false := by simpa using hk
    by_cases hk8 : k' = 8
    · subst hk8
      go_enter Try.func66, Try.ntmps66
      go_wp2
      go_ret
      exact RetB.mk (by simp [wayB]) hb.out
    · have q5 : (k' == 8) = false := by simpa using hk8
      go_enter Try.func66, Try.ntmps66
      go_wp2
      go_ret
      exact RetB.mk (by simp [wayB, hk, hk8]) hb.out

/-- Block p is a list of claims: the image, its size, and where the claims are. -/
def LBox (w : World) (p : Nat) (A : Option Addr) (n cb : Nat) (size : Int) (g len cap : Nat) : Prop :=
  w.heap[p]? = some (.cells #[.slice A n cb, .int .i64 size, .slice (some ⟨g, 0, none⟩) len cap] 72 (0, 0))
section
variable {w w' : World} {p : Nat} {A : Option Addr} {n cb : Nat} {size : Int} {g len cap : Nat}
theorem LBox.cell (h : LBox w p A n cb size g len cap) (j : Nat) : w.cell? ⟨p, j, none⟩ = (#[.slice A n cb, .int .i64 size, .slice (some ⟨g, 0, none⟩) len cap] : Array Value)[j]? := cell_of_row w p j _ _ _ h
theorem LBox.free (h : LBox w p A n cb size g len cap) (j : Nat) : w.frozen? ⟨p, j, none⟩ = false := by
  unfold LBox at h
  simp [World.frozen?, h]
theorem LBox.lt (h : LBox w p A n cb size g len cap) : p < w.heap.size := (Array.getElem?_eq_some_iff.1 h).1
theorem LBox.keep (h : LBox w p A n cb size g len cap) (hk : w'.heap[p]? = w.heap[p]?) : LBox w' p A n cb size g len cap := hk.trans h
theorem LBox.put (h : LBox w p A n cb size g len cap) (g' len' cap' : Nat) : LBox (w.setCell ⟨p, 2, none⟩ (.slice (some ⟨g', 0, none⟩) len' cap')) p A n cb size g' len' cap' := by
  unfold LBox at *
  simp only [World.setCell, Array.getElem?_modify]
  simp [h]
end

theorem isThere_is (A : Option Addr) (n c : Nat) (xs : List Int) (t : Int) (v : Bool) (hv : thereB xs t = v) (w : World) (h : Rd w w.heap.size A n xs) (hn : n ≤ 2097152) (hi : imgB xs = true) :
    Calls Try.prog 65 #[.slice A n c, .int .i64 t] w (RetB w v) := by
  subst hv
  exact isThere_any A n c xs t w h hn hi

theorem noBar_hit {l : List Cm} {c : Cm} {k : Nat} (hk : k < l.length) (h : barsB (l.getD k cm0) c = true) : noBar l c l.length = false := by
  rw [noBar_all _ _ _ (Nat.le_refl _)]
  have : (l.any fun x => barsB x c) = true := by
    rw [List.any_eq_true]
    refine ⟨l[k], List.getElem_mem hk, ?_⟩
    rw [List.getD_eq_getElem?_getD, List.getElem?_eq_getElem hk] at h
    exact h
  rw [this]
  rfl

set_option maxRecDepth 100000 in
set_option maxHeartbeats 4000000 in
theorem would_any (A : Option Addr) (n cb : Nat) (xs : List Int) (size : Int) (p g cap lo hi : Nat) (l : List Cm) (c : Cm) (w : World) (hr : Rd w w.heap.size A n xs) (hn : n ≤ 2097152) (him : imgB xs = true) (hl : l.length ≤ 100000)
    (hb : LBox w p A n cb size g l.length cap) (ho : OwV 43 6 w lo hi g l.length cap (l.flatMap cmV)) :
    Calls Try.prog 59 #[.pointer (some ⟨p, 0, none⟩), cmA c] w (RetB w (goodB xs size l c)) := by
  obtain ⟨ck, cf, cs, cp, ct, cg⟩ := c
  have hgl := ho.lt
  have hpl := hb.lt
  unfold cmA
  have B0 := (Below.refl w.heap.size w).alloc (Nat.le_refl _) (.cells #[.int .i64 ck, .int .i64 cf, .int .i64 cs, .int .i64 cp, .int .i64 ct, .bool cg] 43)
  have hb0 := hb.keep (w' := w.alloc (.cells #[.int .i64 ck, .int .i64 cf, .int .i64 cs, .int .i64 cp, .int .i64 ct, .bool cg] 43)) (Below.heap_alloc _ _ _ hpl)
  have ho0 := ho.keep (w' := w.alloc (.cells #[.int .i64 ck, .int .i64 cf, .int .i64 cs, .int .i64 cp, .int .i64 ct, .bool cg] 43)) (Below.heap_alloc _ _ _ hgl)
  have hc0 : BoxC (w.alloc (.cells #[.int .i64 ck, .int .i64 cf, .int .i64 cs, .int .i64 cp, .int .i64 ct, .bool cg] 43)) w.heap.size ⟨ck, cf, cs, cp, ct, cg⟩ := heap_alloc_new w _
  have hz0 : w.heap.size + 1 = (w.alloc (.cells #[.int .i64 ck, .int .i64 cf, .int .i64 cs, .int .i64 cp, .int .i64 ct, .bool cg] 43)).heap.size := by simp
  have hr0 := (hr.below B0).more B0.size
  have HG := Lib.hid (show goodB xs size l ⟨ck, cf, cs, cp, ct, cg⟩ = ((thereB xs ct && decide (cp < size)) && noBar l ⟨ck, cf, cs, cp, ct, cg⟩ l.length) by rw [noBar_all _ _ _ (Nat.le_refl _)]; rfl)
  go_enter Try.func59, Try.ntmps59
  go_wp2_with fail
  clear ho hb hr
  generalize (w.alloc (.cells #[.int .i64 ck, .int .i64 cf, .int .i64 cs, .int .i64 cp, .int .i64 ct, .bool cg] 43)) = w0 at *
  have p0 : w0.cell? ⟨p, 0, none⟩ = some (.slice A n cb) := hb0.cell 0
  have p1 : w0.cell? ⟨p, 1, none⟩ = some (.int .i64 size) := hb0.cell 1
  have c3 : w0.cell? ⟨w.heap.size, 3, none⟩ = some (.int .i64 cp) := hc0.cell 3
  have c4 : w0.cell? ⟨w.heap.size, 4, none⟩ = some (.int .i64 ct) := hc0.cell 4
  have hq : w.heap.size < w0.heap.size := by omega
  have hp0 : p < w0.heap.size := by omega
  cases ht : thereB xs ct
  · first
      | go_region_with ((go_at_call 65; refine (isThere_is A n cb xs ct _ ht w0.drew hr0 hn him).mono ?_; rintro e w1 ⟨rfl, b1⟩))
      | fail
    all_goals
      go_wp2_with fail
      go_ret
      exact RetB.mk (by rw [HG.out, ht]; rfl) (below_more B0.drew b1 B0.drew.size)
  by_cases hcp : cp < size
  case' neg =>
    have HP := Lib.hid (decide_eq_false hcp)
    have hd : decide (size ≤ cp) = true := by simpa using hcp
  case' pos =>
    have HP := Lib.hid (decide_eq_true hcp)
    have hd : decide (size ≤ cp) = false := by simpa using hcp
  all_goals
    go_region_held3 (fun w' => w'.cell? ⟨p, 0, none⟩ = some (.slice A n cb) ∧ w'.cell? ⟨p, 1, none⟩ = some (.int .i64 size) ∧ w'.cell? ⟨w.heap.size, 3, none⟩ = some (.int .i64 cp) ∧ w'.cell? ⟨w.heap.size, 4, none⟩ = some (.int .i64 ct))
      (first
        | go_keep
        | (go_split_ands
           refine ⟨?_, ?_, ?_, ?_⟩
           · exact (b1.cell (p := ⟨p, 0, none⟩) hp0).trans (by assumption)
           · exact (b1.cell (p := ⟨p, 1, none⟩) hp0).trans (by assumption)
           · exact (b1.cell (p := ⟨w.heap.size, 3, none⟩) hq).trans (by assumption)
           · exact (b1.cell (p := ⟨w.heap.size, 4, none⟩) hq).trans (by assumption)))
      ((go_at_call 65; refine (isThere_is A n cb xs ct _ ht w0.drew hr0 hn him).mono ?_; rintro e w1 ⟨rfl, b1⟩))
    have B1 := below_more B0.drew b1 B0.drew.size
  case neg =>
    go_wp2_with fail
    go_ret
    exact RetB.mk (by rw [HG.out, ht, HP.out]; rfl) B1
  case pos =>
    have HG2 := Lib.hid (show goodB xs size l ⟨ck, cf, cs, cp, ct, cg⟩ = noBar l ⟨ck, cf, cs, cp, ct, cg⟩ l.length by rw [HG.out, ht, HP.out]; rfl)
    have s1 : w0.heap.size ≤ w1.heap.size := b1.size
    have p2 : w1.cell? ⟨p, 2, none⟩ = some (.slice (some ⟨g, 0, none⟩) l.length cap) := (hb0.keep (b1.block p hp0)).cell 2
    have hc1 := hc0.keep (b1.block w.heap.size hq)
    have ho1 := ho0.keep (b1.block g (by show g < w0.heap.size; omega))
    clear HG p0 p1 c3 c4 hd ht b1 hb0 hc0 ho0 hr0 B0
    go_wp2_with fail
    go_loopw [29] (fun i wr => ∃ k : Nat, k ≤ l.length ∧ i = .int .i64 k ∧ noBar l ⟨ck, cf, cs, cp, ct, cg⟩ k = true ∧ Below w1.heap.size w1 wr) (fun i _ => l.length - (intOf i).toNat)
    case atStart => exact ⟨0, Nat.zero_le _, rfl, noBar_zero _ _, Below.refl _ _⟩
    case round =>
      obtain ⟨k, hk, rfl, hno, hbr⟩ := hrel
      have HNo := Lib.hid hno
      clear hno
      have sr := hbr.size
      have BR := Lib.hid (below_more B1 hbr B1.size)
      by_cases hlt : k < l.length
      · have HS := Lib.hid (noBar_step l ⟨ck, cf, cs, cp, ct, cg⟩ k hlt)
        have HB := Lib.hid (bars_way (l.getD k cm0) ⟨ck, cf, cs, cp, ct, cg⟩)
        have HT := Lib.hid (fun h => noBar_hit (c := ⟨ck, cf, cs, cp, ct, cg⟩) hlt h)
        have hce : ∀ j, j < 6 → wr.cell? ⟨g, k * 6 + j, none⟩ = (cmV (l.getD k cm0))[j]? := fun j hj => by
          rw [(ho1.keep (hbr.block g (by omega))).cell (by omega), cm_cell hlt hj]
        have hbc := (hc1.keep (hbr.block _ (by omega))).cell
        have hqr : w.heap.size < wr.heap.size := by omega
        generalize l.getD k cm0 = x at *
        obtain ⟨xk, xf, xs', xp, xt, xg⟩ := x
        have e0 : wr.cell? ⟨g, k * 6, none⟩ = some (.int .i64 xk) := hce 0 (by omega)
        have e1 : wr.cell? ⟨g, k * 6 + 1, none⟩ = some (.int .i64 xf) := hce 1 (by omega)
        have e2 : wr.cell? ⟨g, k * 6 + 2, none⟩ = some (.int .i64 xs') := hce 2 (by omega)
        have e3 : wr.cell? ⟨g, k * 6 + 3, none⟩ = some (.int .i64 xp) := hce 3 (by omega)
        have e4 : wr.cell? ⟨g, k * 6 + 4, none⟩ = some (.int .i64 xt) := hce 4 (by omega)
        have e5 : wr.cell? ⟨g, k * 6 + 5, none⟩ = some (.bool xg) := hce 5 (by omega)
        have b0 : (wr.alloc (.cells #[.int .i64 xk, .int .i64 xf, .int .i64 xs', .int .i64 xp, .int .i64 xt, .bool xg] 43)).cell? ⟨w.heap.size, 0, none⟩ = some (.int .i64 ck) := (World.cell?_alloc_lt _ _ _ hqr).trans (hbc 0)
        have b1 : (wr.alloc (.cells #[.int .i64 xk, .int .i64 xf, .int .i64 xs', .int .i64 xp, .int .i64 xt, .bool xg] 43)).cell? ⟨w.heap.size, 1, none⟩ = some (.int .i64 cf) := (World.cell?_alloc_lt _ _ _ hqr).trans (hbc 1)
        have b2 : (wr.alloc (.cells #[.int .i64 xk, .int .i64 xf, .int .i64 xs', .int .i64 xp, .int .i64 xt, .bool xg] 43)).cell? ⟨w.heap.size, 2, none⟩ = some (.int .i64 cs) := (World.cell?_alloc_lt _ _ _ hqr).trans (hbc 2)
        have b3 : (wr.alloc (.cells #[.int .i64 xk, .int .i64 xf, .int .i64 xs', .int .i64 xp, .int .i64 xt, .bool xg] 43)).cell? ⟨w.heap.size, 3, none⟩ = some (.int .i64 cp) := (World.cell?_alloc_lt _ _ _ hqr).trans (hbc 3)
        have b4 : (wr.alloc (.cells #[.int .i64 xk, .int .i64 xf, .int .i64 xs', .int .i64 xp, .int .i64 xt, .bool xg] 43)).cell? ⟨w.heap.size, 4, none⟩ = some (.int .i64 ct) := (World.cell?_alloc_lt _ _ _ hqr).trans (hbc 4)
        have b5 : (wr.alloc (.cells #[.int .i64 xk, .int .i64 xf, .int .i64 xs', .int .i64 xp, .int .i64 xt, .bool xg] 43)).cell? ⟨w.heap.size, 5, none⟩ = some (.bool cg) := (World.cell?_alloc_lt _ _ _ hqr).trans (hbc 5)
        clear hce hbc
        have HA := Lib.hid (hbr.alloc sr (.cells #[.int .i64 xk, .int .i64 xf, .int .i64 xs', .int .i64 xp, .int .i64 xt, .bool xg] 43))
        cases xg
        · have HE : Hid (noBar l ⟨ck, cf, cs, cp, ct, cg⟩ (k + 1) = true) := by rw [HS.out, HB.out, HNo.out]; rfl
          clear HB HS HT
          go_wp2_with fail
          go_roundw
          case rel => exact ⟨k + 1, by omega, by go_num, HE.out, HA.out⟩
          case measure => simp [intOf]; omega
        · by_cases ht : xt = ct
          · have hdt : (xt == ct) = true := by simpa using ht
            have HW : Hid (barsB ⟨xk, xf, xs', xp, xt, true⟩ ⟨ck, cf, cs, cp, ct, cg⟩ = wayB ⟨xk, xf, xs', xp, xt, true⟩ ⟨ck, cf, cs, cp, ct, cg⟩) := by rw [HB.out]; simp [hdt, Hid]
            clear HB ht
            go_wp2_with fail
            refine (way_any ⟨xk, xf, xs', xp, xt, true⟩ ⟨ck, cf, cs, cp, ct, cg⟩ _).mono ?_
            rintro e w2 ⟨rfl, bl2⟩
            have HA2 := Lib.hid (below_more HA.out bl2 HA.out.size)
            cases hq : wayB ⟨xk, xf, xs', xp, xt, true⟩ ⟨ck, cf, cs, cp, ct, cg⟩
            · have HE : Hid (noBar l ⟨ck, cf, cs, cp, ct, cg⟩ (k + 1) = true) := by rw [HS.out, HW.out, HNo.out, hq]; rfl
              clear HW HS HT hq
              go_wp2_with fail
              go_roundw
              case rel => exact ⟨k + 1, by omega, by go_num, HE.out, HA2.out⟩
              case measure => simp [intOf]; omega
            · have HE : Hid (noBar l ⟨ck, cf, cs, cp, ct, cg⟩ l.length = false) := HT.out (by rw [HW.out, hq])
              clear HW HS HT hq
              go_wp2_with fail
              go_ret
              exact RetB.mk (by rw [HG2.out, HE.out]) (below_more B1 HA2.out B1.size)
          · have hdt : (xt == ct) = false := by simpa using ht
            have HE : Hid (noBar l ⟨ck, cf, cs, cp, ct, cg⟩ (k + 1) = true) := by rw [HS.out, HB.out, HNo.out, Bool.true_and]; show (!(true && ((xt == ct) && _))) = true; rw [hdt]; rfl
            clear HB HS HT
            go_wp2_with fail
            go_roundw
            case rel => exact ⟨k + 1, by omega, by go_num, HE.out, HA.out⟩
            case measure => simp [intOf]; omega
      · obtain rfl : k = l.length := by omega
        go_wp2_with fail
        go_ret
        exact RetB.mk (by rw [HG2.out, HNo.out]) BR.out

end Go.Proofs.Ytpnnbenehajipaa
