/- Cleared: the table of shots. -/
import Derived.Test.YtpnnbenehajipaaCld
namespace Go.Proofs.Ytpnnbenehajipaa
open Go.RowKit

theorem set_twice (z : List Int) (p : Nat) (a b : Int) : (z.set p a).set p b = z.set p b := List.set_set a
/-- In an image of one's own: the table of shots has just these of its first pairs. -/
def KeepRel (w1 : World) (lo hi g n c : Nat) (h : Hd) (kw zs : List Int) (M : Nat) (i : Value) (wr : World) : Prop :=
  ∃ k : Nat, k ≤ M ∧ i = .int .i64 k ∧ Ow wr lo hi (some ⟨g, 0, none⟩) n c ((List.range k).foldl (keepStep h kw) zs) ∧ w1.grownBy wr (some g)

set_option maxRecDepth 100000 in
set_option maxHeartbeats 4000000 in
theorem specKeep_any (g n c lo hi nk ck : Nat) (K : Option Addr) (zs kw : List Int) (h : Hd) (w : World) (ho : Ow w lo hi (some ⟨g, 0, none⟩) n c zs) (hk : Rd w lo K nk kw) (hlo : lo ≤ g) (hs0 : 0 ≤ h.shots) (hm0 : 0 ≤ h.many) (hm4 : h.many ≤ 4) (hin : h.shots.toNat * 8 + 8 ≤ n) (hn : n ≤ 1000) (hnk : nk ≤ 100000) :
    Calls Try.prog 24 #[.slice (some ⟨g, 0, none⟩) n c, hdV h, .slice K nk ck] w fun e w' => e = .returned (.slice (some ⟨g, 0, none⟩) n c) ∧ Ow w' lo hi (some ⟨g, 0, none⟩) n c (keepL h kw zs) ∧ w.grownBy w' (some g) := by
  have hgl := ow_lt ho
  have HK : Hid (keepL h kw zs = (List.range (2 * h.many).toNat).foldl (keepStep h kw) zs) := rfl
  have HSt : Hid (∀ (o : List Int) (i : Nat), keepStep h kw o i = o.set (h.shots.toNat * 8 + i) (kw.getD i 0)) := fun _ _ => rfl
  have hkl := Lib.hid hk.len
  have HR := Lib.hid hk
  have hlen : zs.length = n := ho.len
  have HLn : Hid (∀ k, k ≤ 8 → ((List.range k).foldl (keepStep h kw) zs).length = n) := fun k hk8 => by
    rw [(keep_get h kw k zs 0 (by omega)).2]; exact hlen
  generalize hF : keepStep h kw = F at *
  clear hF hk hlen
  obtain ⟨s, f, r, u, m⟩ := h
  simp only at *
  obtain ⟨μ, rfl⟩ := Int.eq_ofNat_of_zero_le hm0
  obtain ⟨υ, rfl⟩ := Int.eq_ofNat_of_zero_le hs0
  have e2 : ((2 : Int) * (μ : Int)).toNat = 2 * μ := by omega
  rw [e2] at HK
  rw [Int.toNat_natCast] at HSt hin
  clear hm0 hs0 e2
  unfold hdV
  have hz : (w.alloc (.cells #[.int .i64 s, .int .i64 f, .int .i64 r, .int .i64 υ, .int .i64 μ] 28)).heap.size = w.heap.size + 1 := by simp
  have HBX : Hid ((w.alloc (.cells #[.int .i64 s, .int .i64 f, .int .i64 r, .int .i64 υ, .int .i64 μ] 28)).heap[w.heap.size]? = some (.cells #[.int .i64 s, .int .i64 f, .int .i64 r, .int .i64 υ, .int .i64 μ] 28 (0, 0))) := heap_alloc_new w _
  have hal := World.grownBy_alloc w (.cells #[.int .i64 s, .int .i64 f, .int .i64 r, .int .i64 υ, .int .i64 μ] 28) (some g)
  have ho1 := ho.keep (w' := w.alloc (.cells #[.int .i64 s, .int .i64 f, .int .i64 r, .int .i64 υ, .int .i64 μ] 28)) (fun q _ _ hq => Below.heap_alloc _ _ _ hq)
  have HZ := Lib.hid hz
  have HAL := Lib.hid hal
  have HR1 : Hid (Rd (w.alloc (.cells #[.int .i64 s, .int .i64 f, .int .i64 r, .int .i64 υ, .int .i64 μ] 28)) lo K nk kw) := HR.out.below ((Below.refl lo w).alloc (by omega) _)
  clear hz hal ho HR
  go_enter Try.func24, Try.ntmps24
  go_wp2_with fail
  generalize (w.alloc (.cells #[.int .i64 s, .int .i64 f, .int .i64 r, .int .i64 υ, .int .i64 μ] 28)) = w1 at *
  go_loopw [7] (fun i wr => ∃ k : Nat, k ≤ 2 * μ ∧ i = .int .i64 k ∧ Ow wr lo hi (some ⟨g, 0, none⟩) n c ((List.range k).foldl F zs) ∧ w1.grownBy wr (some g)) (fun i _ => 2 * μ - (intOf i).toNat)
  case atStart => exact ⟨0, Nat.zero_le _, rfl, ho1, grown_refl _ _⟩
  case round =>
    obtain ⟨k, hk, rfl, hok, hg⟩ := hrel
    have sr := hg.size
    have HBr : Hid (wr.heap[w.heap.size]? = some (.cells #[.int .i64 s, .int .i64 f, .int .i64 r, .int .i64 υ, .int .i64 μ] 28 (0, 0))) := (hg.block w.heap.size (by have := HZ.out; omega) (fun e => by injection e with e; omega)).trans HBX.out
    have k3 : wr.cell? ⟨w.heap.size, 3, none⟩ = some (.int .i64 υ) := by rw [cell_of_row wr w.heap.size 3 _ _ _ HBr.out]; rfl
    have k4 : wr.cell? ⟨w.heap.size, 4, none⟩ = some (.int .i64 μ) := by rw [cell_of_row wr w.heap.size 4 _ _ _ HBr.out]; rfl
    by_cases hlt : k < 2 * μ
    · have hidx : υ * 8 + k < n := by omega
      have hco := hok.cell hidx
      have hfo := hok.free (υ * 8 + k)
      have HS := Lib.hid (range_next F zs k)
      rw [HSt.out] at HS
      obtain ⟨h1, h2⟩ := hok.set (υ * 8 + k) 0
      have H1 := Lib.hid h1
      have H2 := Lib.hid h2
      clear h1 h2
      generalize (List.range k).foldl F zs = fs at *
      generalize fs.getD (υ * 8 + k) 0 = v0 at *
      have n6a : (0 : Int) ≤ (υ : Int) * 8 + (k : Int) := by omega
      have n6b : (υ : Int) * 8 + (k : Int) < (n : Int) := by omega
      have n6c : ((υ : Int) * 8 + (k : Int)).toNat = υ * 8 + k := by omega
      have hd1 : decide ((k : Int) < 2 * (μ : Int)) = true := by simp; omega
      have k3s : (wr.setCell ⟨g, υ * 8 + k, none⟩ (.int .i64 0)).cell? ⟨w.heap.size, 3, none⟩ = some (.int .i64 υ) := (World.cell?_of_block (w := wr) (Below.heap_setCell _ _ _ _ (by show w.heap.size ≠ g; omega))).trans k3
      have k4s : (wr.setCell ⟨g, υ * 8 + k, none⟩ (.int .i64 0)).cell? ⟨w.heap.size, 4, none⟩ = some (.int .i64 μ) := (World.cell?_of_block (w := wr) (Below.heap_setCell _ _ _ _ (by show w.heap.size ≠ g; omega))).trans k4
      by_cases hkn : k < nk
      · obtain ⟨kb, koff, rfl, hkb, hkc⟩ := HR1.out.2 (by omega)
        have q0 : (wr.setCell ⟨g, υ * 8 + k, none⟩ (.int .i64 0)).cell? ⟨kb, koff + k, none⟩ = some (.int .i64 (kw.getD k 0)) := by
          refine (World.cell?_of_block (w := wr) (Below.heap_setCell _ _ _ _ (by show kb ≠ g; omega))).trans ?_
          exact hg.cell (hkc k hkn) (fun e => by injection e with e; have : kb = g := e; omega)
        have hd2 : decide ((k : Int) < (nk : Int)) = true := by simp; omega
        have hco2 := H1.out.cell hidx
        have hfo2 := H1.out.free (υ * 8 + k)
        have HSt2 := Lib.hid (H1.out.set (υ * 8 + k) (kw.getD k 0))
        rw [set_twice] at HSt2
        generalize (fs.set (υ * 8 + k) 0).getD (υ * 8 + k) 0 = v1 at *
        generalize kw.getD k 0 = x at *
        clear HR1 hkc
        go_wp2_with fail
        generalize wr.setCell ⟨g, υ * 8 + k, none⟩ (.int .i64 0) = w3 at *
        have n1 : (0 : Int) ≤ (k : Int) := by omega
        have n2 : (k : Int) < (nk : Int) := by omega
        have n3 : IntKind.i64.wrap ((υ : Int) * 8) = (υ : Int) * 8 := IntWalk.i64_in _ (by omega)
        have n6 : IntKind.i64.wrap ((υ : Int) * 8 + (k : Int)) = (υ : Int) * 8 + (k : Int) := IntWalk.i64_in _ (by omega)
        go_still_tail 11, (by kernel_rfl)
        change wpList _ _ _ _ _ w3.drew
        clear n1 n2 n3 n6 n6a n6b n6c
        go_wp2_with fail
        go_roundw
        case rel =>
          obtain ⟨h3, h4⟩ := HSt2.out
          refine ⟨k + 1, by omega, by go_num, ?_, grown_trans hg (grown_trans H2.out (grown_drew h4))⟩
          rw [HS.out]
          exact h3.drew
        case measure => simp [intOf]; omega
      · have hd2 : decide ((k : Int) < (nk : Int)) = false := by simp; omega
        have HX : Hid (kw.getD k 0 = 0) := getD_past kw k (by have := hkl.out; omega)
        rw [HX.out] at HS
        clear HR1 HX
        go_wp2_with fail
        go_roundw
        case rel => exact ⟨k + 1, by omega, by go_num, by rw [HS.out]; exact H1.out, grown_trans hg H2.out⟩
        case measure => simp [intOf]; omega
    · obtain rfl : k = 2 * μ := by omega
      have hd1 : decide (((2 * μ : Nat) : Int) < 2 * (μ : Int)) = false := by simp
      go_wp2_with fail
      go_ret
      rw [HK.out]
      refine ⟨rfl, hok, ?_⟩
      exact grown_trans HAL.out hg
end Go.Proofs.Ytpnnbenehajipaa
