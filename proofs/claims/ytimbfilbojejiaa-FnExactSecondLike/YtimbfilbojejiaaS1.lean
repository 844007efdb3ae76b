/- Roles (chapter 7): the program's side: takenIn (a map), RolesIn, LooseIn, given what ClaimsIn answers. Scans (chapter 13), the program's side: a table's words as entries; whether a cluster looks like a table. Scans (chapter 13), the program's side: is it a lost second table; all that are; refound. Scans (chapter 13), the program's side: Refound. -/
import Derived.Test.YtimbfilbojejiaaLawRo
import Derived.Test.YtimbfilbojejiaaCmQ
import Derived.Maps.OwnSet
import Derived.Test.YtimbfilbojejiaaScn
import Derived.Test.YtimbfilbojejiaaHdk
import Derived.Test.YtimbfilbojejiaaTbi
import Derived.Test.YtimbfilbojejiaaCpy
import Derived.Test.YtimbfilbojejiaaLawScn
import Derived.Test.YtimbfilbojejiaaScr
import Derived.Deep.RegionHeld3
namespace Go.Proofs.Ytimbfilbojejiaa
open Go.RowKit Go.Maps
open Go.RowKit

theorem lawI : Keyed Try.prog 2 := int_keyed Try.underlying2
theorem zeroI (w : World) : (zeroValue 2).run Try.prog w = .ok (.int .i64 0) w := by kernel_rfl

/-- Block b is a map from numbers to numbers, of at most n entries, that reads as D. -/
def MapAt (w : World) (b n : Nat) (D : DataW Unit) : Prop := w.ownsMap Try.prog 2 (plainElem (H := Unit) Try.prog 2) b n D
theorem MapAt.keep {w w' : World} {b n : Nat} {D : DataW Unit} (h : MapAt w b n D) (hk : w'.heap[b]? = w.heap[b]?) : MapAt w' b n D := by
  obtain ⟨es, cl, h1, r⟩ := h
  exact ⟨es, cl, hk.trans h1, r⟩
theorem MapAt.below {B : Nat} {w w' : World} {b n : Nat} {D : DataW Unit} (h : MapAt w b n D) (hb : Below B w w') (hlt : b < B) : MapAt w' b n D := h.keep (hb.block b hlt)

/-- What is taken: the kind at each target. -/
def takStep (D : DataW Unit) (c : Cm) : DataW Unit := if c.good = true then D.put (.int .i64 c.target) (.lit (.int .i64 c.kind)) else D

/-- The map holds what the roles say. -/
theorem tak_roles (M : Nat) : ∀ (l : List Cm) (D : DataW Unit) (o : List Int), IsMap D → o.length = M → (∀ c ∈ l, c.good = true → 0 ≤ c.target ∧ c.target < M) →
    (∀ τ : Nat, D.atKey (.int .i64 τ) (.lit (.int .i64 0)) = .lit (.int .i64 (o.getD τ 0))) → ∀ τ : Nat, (l.foldl takStep D).atKey (.int .i64 τ) (.lit (.int .i64 0)) = .lit (.int .i64 ((l.foldl roleStep o).getD τ 0))
  | [], _, _, _, _, _, h => h
  | c :: l, D, o, hD, ho, hb, h => by
    rw [List.foldl_cons, List.foldl_cons]
    by_cases hc : c.good = true
    · have e1 : takStep D c = D.put (.int .i64 c.target) (.lit (.int .i64 c.kind)) := if_pos hc
      have e2 : roleStep o c = o.set c.target.toNat c.kind := if_pos hc
      rw [e1, e2]
      obtain ⟨b0, b1⟩ := hb c (by simp) hc
      obtain ⟨t, ht⟩ := Int.eq_ofNat_of_zero_le b0
      refine tak_roles M l _ _ (hD.put _ _) (by simp [ho]) (fun x hx => hb x (by simp [hx])) (fun τ => ?_)
      rw [getD_set, ht, Int.toNat_natCast]
      by_cases e : t = τ
      · subst e
        rw [if_pos ⟨rfl, by omega⟩]
        exact atKey_put_same (k := .int .i64 _) hD trivial _ _
      · rw [if_neg (fun h => e h.1)]
        exact (atKey_put_other (fun hh => e (by injection hh with _ hh; omega)) _ _).trans (h τ)
    · have e1 : takStep D c = D := if_neg hc
      have e2 : roleStep o c = o := if_neg hc
      rw [e1, e2]
      exact tak_roles M l D o hD ho (fun x hx => hb x (by simp [hx])) h
theorem tak_has (k : Lit) : ∀ (l : List Cm) (D : DataW Unit), IsMap D → has D k = true → has (l.foldl takStep D) k = true
  | [], _, _, h => h
  | c :: l, D, hD, h => by
    rw [List.foldl_cons]
    unfold takStep
    split
    · refine tak_has k l _ (hD.put _ _) ?_
      by_cases e : k = .int .i64 c.target
      · subst e
        exact has_put_same (k := .int .i64 _) hD trivial _
      · rw [has_put_other e]
        exact h
    · exact tak_has k l D hD h
theorem tak_some : ∀ (l : List Cm) (D : DataW Unit), IsMap D → (∃ c ∈ l, c.good = true) → ∃ k, has (l.foldl takStep D) k = true
  | [], _, _, ⟨_, h, _⟩ => by cases h
  | c :: l, D, hD, ⟨x, hx, hg⟩ => by
    rw [List.foldl_cons]
    by_cases hc : c.good = true
    · have e1 : takStep D c = D.put (.int .i64 c.target) (.lit (.int .i64 c.kind)) := if_pos hc
      rw [e1]
      exact ⟨_, tak_has (.int .i64 c.target) l _ (hD.put _ _) (has_put_same (k := .int .i64 _) hD trivial _)⟩
    · have e1 : takStep D c = D := if_neg hc
      rw [e1]
      refine tak_some l D hD ⟨x, ?_, hg⟩
      rcases List.mem_cons.1 hx with rfl | h
      · exact absurd hg hc
      · exact h
theorem size_of_has {D : DataW Unit} {k : Lit} (hD : IsMap D) (h : has D k = true) : Maps.size D ≠ 0 := by
  obtain ⟨es, rfl⟩ := hD
  rw [has_eq] at h
  rw [size_eq]
  intro e
  rw [List.length_eq_zero_iff.1 e] at h
  simp at h
theorem none_of_size {D : DataW Unit} (hD : IsMap D) (h : Maps.size D = 0) (k : Lit) (z : DataW Unit) : D.atKey k z = z := by
  obtain ⟨es, rfl⟩ := hD
  rw [size_eq] at h
  rw [List.length_eq_zero_iff.1 h]
  exact atKey_of_not_has (by rw [has_eq]; rfl) z
theorem claims_good (xs : List Int) : ∃ c ∈ claimsC xs, c.good = true :=
  Steady.all (P := fun l => ∃ c ∈ l, c.good = true) ⟨fun _ _ _ _ h => by
    obtain ⟨c, h1, h2⟩ := h
    exact ⟨c, by unfold addC; rw [List.mem_append]; exact .inl h1, h2⟩⟩ ⟨⟨1, 0, 0, 0, 0, true⟩, by simp, rfl⟩ xs

/-- The first k roles told, the others nought. -/
def toldR (o : List Int) (k : Nat) : List Int := o.take k ++ List.replicate (o.length - k) 0
theorem told_zero (o : List Int) : toldR o 0 = List.replicate o.length 0 := by simp [toldR]
theorem told_all (o : List Int) : toldR o o.length = o := by simp [toldR]
theorem told_step {o : List Int} {k : Nat} (hk : k < o.length) : (toldR o k).set k (o.getD k 0) = toldR o (k + 1) := by
  have e1 : o.length - k = (o.length - (k + 1)) + 1 := by omega
  have e2 : o.getD k 0 = o[k] := by simp [List.getD_eq_getElem?_getD, hk]
  unfold toldR
  have hl : (o.take k).length = k := by simp; omega
  rw [e1, List.replicate_succ, e2, List.take_succ_eq_append_getElem hk, List.set_append, if_neg (by omega), hl, Nat.sub_self, List.set_cons_zero, List.append_assoc]
  rfl
theorem told_rest {o : List Int} {k : Nat} (h : ∀ τ : Nat, k ≤ τ → o.getD τ 0 = 0) : toldR o k = o := by
  unfold toldR
  conv => rhs; rw [← List.take_append_drop k o]
  congr 1
  apply List.ext_getElem?
  intro j
  rw [List.getElem?_replicate, List.getElem?_drop]
  by_cases hj : k + j < o.length
  · have := h (k + j) (by omega)
    rw [List.getD_eq_getElem?_getD, List.getElem?_eq_getElem hj] at this
    rw [if_pos (by omega), List.getElem?_eq_getElem hj]
    simp at this
    rw [this]
  · rw [if_neg (by omega), List.getElem?_eq_none (by omega)]

/-- append of a new block that lies behind all onto a row of one's own, nil or not. -/
theorem wpList_append_r {P : Program} {w : World} {ops : Array Oper} {rest : List Oper} {o : Oper} {a : Act} {Q : Exit → Act → World → Prop} (hgd : o.guard = none) (s x : Operand) (t : TypeId)
    (ho : o.op = .call { callee := .builtin .append, args := #[s, x], argTypes := #[t, t] })
    (e : TypeId) (sz by_ : Nat) (z : Value) (i : TypeInfo) (ht : P.underlying t = some (.slice e)) (hi : P.info? e = some i) (hz : i.zero = some z) (hsize : i.size = sz) (hby : i.bytes = by_) (hzs : z.cells.size = sz) (hsz : 0 < sz) (hb8 : by_ ≤ 1000)
    (lo hi' n c : Nat) (A : Option Addr) (cs : List Value) (hs : a.eval s = .slice A n c) (hown : OwR e sz w lo hi' A n c cs)
    (news : Array Value) (m c' q : Nat) (hq : w.heap.size = q) (hx : a.eval x = .slice (some ⟨q, 0, none⟩) m c') (hm : 0 < m) (hl : news.size = m * sz) (h1 : ∀ u ∈ news.toList, u.oneCell' = true)
    (hnm : n + m ≤ 16777216) (hlo : lo ≤ w.heap.size)
    (h : ∀ (g' cd : Nat) (w' : World), OwR e sz w' lo w'.heap.size (some ⟨g', 0, none⟩) (n + m) cd (cs ++ news.toList) → Below lo w w' → wpList P ops Q rest (a.put o.dst (.slice (some ⟨g', 0, none⟩) (n + m) cd)) w') :
    wpList P ops Q (o :: rest) a (w.alloc (.cells news e)) := by
  subst hq
  have hal : w.grownBy (w.alloc (.cells news e)) none := ⟨rfl, rfl, rfl, by simp, fun k hk _ => Below.heap_alloc _ _ _ hk⟩
  have hown' := hown.grown hal (fun _ h => by cases h)
  have hbytes : (n + m) * by_ ≤ 140737488355328 := by
    have : (n + m) * by_ ≤ 16777216 * 1000 := Nat.mul_le_mul hnm hb8
    omega
  have h63 : n + m ≤ maxLen := by simp only [maxLen]; omega
  obtain ⟨v', w', hr, h2, h3, h4⟩ := run_append_own (P := P) (w.alloc (.cells news e)) lo t o.type e i z sz by_ ht hi hz hsize hby hzs hsz (.slice A n c) n cs hown'.own ⟨w.heap.size, 0, none⟩ m c' news.toList (by simpa using hl) (by
    intro j u hj
    rw [Addr.add_lit, Nat.zero_add, World.cell?_alloc_new]
    simpa using hj) h1 h63 hbytes (by simp; omega)
  obtain ⟨g', cd, rfl, ho5⟩ := OwV.of h2 (fun e => by have := (h4.1 e).2; omega)
  have hb : Below lo w w' := ((Below.refl lo w).alloc hlo (.cells news e)).grown h3 (by simp; omega) (fun g hg => (hown'.row g hg).1)
  refine wpList_plain hgd fun K hK => ?_
  unfold Oper.wp execOp
  simp only [ho, resolve, invoke, builtin, Sem.run_bind, Sem.run_pure, Result.andThen_ok, List.map_toArray, List.map_cons, List.map_nil, hs, hx, hr]
  exact hK _ _ (h g' cd w' ho5.toR hb)

/-- The cells of claim k of a row. -/
theorem cmr_cells {w : World} {lo hi : Nat} {A : Option Addr} {cg : Nat} {l : List Cm} (h : OwR 45 6 w lo hi A l.length cg (l.flatMap cmV)) {k : Nat} (hk : k < l.length) :
    ∃ g, A = some ⟨g, 0, none⟩ ∧ lo ≤ g ∧ g < hi ∧ g < w.heap.size ∧ ∀ w' : World, w'.heap[g]? = w.heap[g]? → ∀ j, j < 6 → w'.cell? ⟨g, k * 6 + j, none⟩ = (cmV (l.getD k cm0))[j]? := by
  rcases h.form with ⟨_, h0, _⟩ | ⟨g, rfl, h1, h2, h3, _⟩
  · omega
  · exact ⟨g, rfl, h1, h2, h3, fun w' hw j hj => (World.cell?_of_block (a := ⟨g, k * 6 + j, none⟩) hw).trans (cm_cells h.rd hk j hj)⟩

set_option maxRecDepth 100000 in
set_option maxHeartbeats 4000000 in
theorem taken_any (hC : ClaimsC) (A : Option Addr) (n c : Nat) (xs : List Int) (w : World) (hr : Rd w w.heap.size A n xs) (hn : n ≤ 2097152) (hnc : n ≤ c) (hT : ∀ c ∈ claimsL xs, (c.good = true → 0 ≤ c.target ∧ c.target < 64) ∧ 1 ≤ c.kind ∧ c.kind ≤ 8) :
    Calls Try.prog 45 #[.slice A n c] w fun e w' => e = .returned (.map (some w.heap.size)) ∧ MapAt w' w.heap.size (claimsL xs).length ((claimsL xs).foldl takStep (.map [])) ∧ Below w.heap.size w w' := by
  have hmm := @run_makeMap Try.prog
  have b1 := (Below.refl w.heap.size w).alloc (Nat.le_refl _) (.map #[] 0)
  have o1 : MapAt (w.alloc (.map #[] 0)) w.heap.size 0 (.map []) := World.ownsMap_made w Try.prog 2 (plainElem (H := Unit) Try.prog 2)
  go_enter Try.func45, Try.ntmps45
  go_wp2_with fail
  refine (hC A n c xs _ ((hr.below b1).more b1.size) hn hnc).mono ?_
  rintro e w2 ⟨G, cg, rfl, oG, b2⟩
  have sb2 := b2.size
  have hsz : (w.alloc (.map #[] 0)).heap.size = w.heap.size + 1 := by simp
  rw [hsz] at sb2
  have o2 := o1.below b2 (by omega)
  have hll := claimsL_length xs
  have HG := Lib.hid oG
  have HB := Lib.hid (below_more b1 b2 b1.size)
  have HT := Lib.hid hT
  have HO := Lib.hid o2
  have HZ := Lib.hid hsz
  clear oG b2 hr b1 o1 o2 hmm hT hsz
  generalize hl : claimsL xs = l at *
  have HLL := Lib.hid hl
  clear hl
  generalize hbb : w.heap.size = B at *
  go_wp2_with fail
  go_loopw [10] (fun i wr => ∃ k : Nat, k ≤ l.length ∧ i = .int .i64 k ∧ MapAt wr B k ((l.take k).foldl takStep (.map [])) ∧ w2.grownBy wr (some B)) (fun i _ => l.length - (intOf i).toNat)
  case atStart => exact ⟨0, Nat.zero_le _, rfl, HO.out, grown_refl _ _⟩
  case round =>
    obtain ⟨k, hk, rfl, hok, hg⟩ := hrel
    have sr := hg.size
    by_cases hlt : k < l.length
    · obtain ⟨g, rfl, hg1, hg2, hg3, hce⟩ := cmr_cells HG.out hlt
      have hgB : B + 1 ≤ g := by rw [← HZ.out]; exact hg1
      have hce := hce wr (hg.block g hg3 (fun e => by injection e with e; omega))
      have HS := Lib.hid (take_fold takStep l (.map []) k hlt)
      have hgd : l.getD k cm0 = l[k] := by simp [List.getD_eq_getElem?_getD, hlt]
      have HTk := Lib.hid (HT.out _ (List.getElem_mem hlt))
      rw [hgd] at hce
      clear hgd
      generalize (l.take k).foldl takStep (.map []) = D at *
      generalize l[k] = x at *
      obtain ⟨xk, xf, xs', xp, xt, xg⟩ := x
      have e0 : wr.cell? ⟨g, k * 6, none⟩ = some (.int .i64 xk) := hce 0 (by omega)
      have e1 : wr.cell? ⟨g, k * 6 + 1, none⟩ = some (.int .i64 xf) := hce 1 (by omega)
      have e2 : wr.cell? ⟨g, k * 6 + 2, none⟩ = some (.int .i64 xs') := hce 2 (by omega)
      have e3 : wr.cell? ⟨g, k * 6 + 3, none⟩ = some (.int .i64 xp) := hce 3 (by omega)
      have e4 : wr.cell? ⟨g, k * 6 + 4, none⟩ = some (.int .i64 xt) := hce 4 (by omega)
      have e5 : wr.cell? ⟨g, k * 6 + 5, none⟩ = some (.bool xg) := hce 5 (by omega)
      clear hce
      have hal := World.grownBy_alloc wr (.cells #[.int .i64 xk, .int .i64 xf, .int .i64 xs', .int .i64 xp, .int .i64 xt, .bool xg] 45) (some B)
      have hok1 := hok.keep (w' := wr.alloc (.cells #[.int .i64 xk, .int .i64 xf, .int .i64 xs', .int .i64 xp, .int .i64 xt, .bool xg] 45)) (Below.heap_alloc _ _ _ (by omega))
      have hgal := grown_trans hg hal
      cases xg
      · have HE : Hid ((l.take (k + 1)).foldl takStep (.map []) = D) := by rw [HS.out]; simp [takStep, Hid]
        clear HS
        go_wp2_with fail
        go_roundw
        case rel => exact ⟨k + 1, by omega, by go_num, by rw [HE.out]; exact World.ownsMap.mono hok1 (by omega), hgal⟩
        case measure => simp [intOf]; omega
      · have HE : Hid ((l.take (k + 1)).foldl takStep (.map []) = D.put (.int .i64 xt) (.lit (.int .i64 xk))) := by rw [HS.out]; simp [takStep, Hid]
        clear HS
        obtain ⟨ht, hk0, hk1⟩ := HTk.out
        obtain ⟨t0, t1⟩ := ht rfl
        simp only at t0 t1 hk0 hk1
        have hkey : keyOf Try.prog 2 (.int .i64 xt) = some (.int .i64 xt) := keyOf_int_mk Try.underlying2 (WalkArith.wf_i64 (by omega))
        go_wp2_with (first | (at_mapUpdate; refine wpList_mapUpdate_own _ rfl _ _ _ 54 rfl 2 2 lawI Try.underlying54 _ B k _ rfl hok1 (by unfold maxLen; omega) _ _ _ rfl rfl hkey _ [] (plainElem_int Try.underlying2 (WalkArith.wf_i64 (by omega))) ?_; intro w5 ho5 hg5))
        go_roundw
        case rel => exact ⟨k + 1, by omega, by go_num, by rw [HE.out]; exact ho5, grown_trans hgal hg5⟩
        case measure => simp [intOf]; omega
    · obtain rfl : k = l.length := by omega
      go_wp2_with fail
      go_ret
      rw [List.take_length] at hok
      rw [HLL.out, hbb]
      exact ⟨rfl, hok, HB.out.grown hg (by omega) (fun j hj => by cases hj; omega)⟩

set_option maxRecDepth 100000 in
set_option maxHeartbeats 4000000 in
theorem implRoles_any (hC : ClaimsC) : RolesC := by
  intro A n c xs w hr hn hnc
  obtain ⟨i0, hi0, hz0, hz1, hz2⟩ := info_parts info2
  have hT : ∀ c ∈ claimsL xs, (c.good = true → 0 ≤ c.target ∧ c.target < 64) ∧ 1 ≤ c.kind ∧ c.kind ≤ 8 := by
    intro c hc
    unfold claimsL at hc
    split at hc
    · rename_i hh
      have hm := manyN_le (hasHead_img hh)
      refine ⟨fun hg => ?_, (claims_ok xs c hc).kind0, (claims_ok xs c hc).kind1⟩
      have := good_target hh hc hg
      omega
    · simp at hc
  go_enter Try.func23, Try.ntmps23
  go_wp2_with fail
  refine (taken_any hC A n c xs w hr hn hnc hT).mono ?_
  rintro e w1 ⟨rfl, hown, b1⟩
  clear hT
  have sb1 := b1.size
  have hll := claimsL_length xs
  cases hh : hasHead xs
  · have HN : Hid (rolesL xs = []) := by unfold rolesL; rw [hh]; rfl
    have hcl : claimsL xs = [] := by unfold claimsL; rw [hh]; rfl
    rw [hcl] at hown
    have hz : Maps.size (.map [] : DataW Unit) = 0 := rfl
    go_wp2_with (first | (at_len; refine wpList_len_own _ rfl _ 54 rfl 2 2 Try.underlying54 _ w.heap.size _ _ rfl hown ?_))
    go_ret
    rw [HN.out]
    exact Ret.nil _ _ b1
  · have HH := Lib.hid hh
    clear hh
    have hcl : claimsL xs = claimsC xs := by unfold claimsL; rw [HH.out]; rfl
    rw [hcl] at hown hll
    obtain ⟨kk, hkk⟩ := tak_some (claimsC xs) (.map []) isMap_empty (claims_good xs)
    have hz := size_of_has (World.ownsMap.isMap hown) hkk
    have HR := Lib.hid (tak_roles (manyN xs) (claimsC xs) (.map []) (List.replicate (manyN xs) 0) isMap_empty (by simp) (fun c hc hg => good_target HH.out hc hg) (fun τ => by rw [zeros_get]; exact atKey_of_not_has (by rw [has_eq]; rfl) _))
    have HN : Hid (rolesL xs = (claimsC xs).foldl roleStep (List.replicate (manyN xs) 0)) := by unfold rolesL; rw [HH.out]; exact rfl
    have HO := Lib.hid (rolesC_length xs)
    unfold rolesC at HO
    have hm := manyN_le (hasHead_img HH.out)
    have hmI : manyI xs = (manyN xs : Int) := by unfold manyI; rw [if_pos (hasHead_img HH.out)]
    clear hkk hcl
    generalize (claimsC xs).foldl roleStep (List.replicate (manyN xs) 0) = o at *
    generalize (claimsC xs).foldl takStep (.map []) = D at *
    generalize (claimsC xs).length = N at *
    obtain ⟨M, hM⟩ : ∃ M, M = manyN xs := ⟨_, rfl⟩
    rw [← hM] at HO hm hmI
    clear hM
    obtain ⟨z, hzz⟩ : ∃ z, Maps.size D = z := ⟨_, rfl⟩
    have hz' : ((z : Int) == 0) = false := by simp; omega
    go_wp2_with (first | (at_len; refine wpList_len_own _ rfl _ 54 rfl 2 2 Try.underlying54 _ w.heap.size _ _ rfl hown ?_; rw [hzz]))
    refine (implClin_any A n c xs w1 ((hr.below b1).more b1.size) hn).mono ?_
    rintro e w2 ⟨rfl, b2⟩
    rw [hmI]
    have hlt1 := World.ownsMap.lt hown
    have oM2 := MapAt.below hown b2 hlt1
    have B2 := below_more b1 b2 b1.size
    have sb2 := b2.size
    clear hr hown b1 b2
    go_wp2_with (at_make; refine wpList_make_full _ rfl _ _ 22 rfl w2.heap.size 2 i0 (.int .i64 0) 1 Try.underlying22 hi0 hz0 hz1 .i64 .i64 _ _ M rfl rfl rfl rfl (by rw [hz2]; omega) (by simp only [maxLen]; omega) (Nat.le_refl _) ?_; intro w3 hown3 hg3; rw [made_iv] at hown3)
    have hb3 : Below w2.heap.size w2 w3 := below_grown hg3 (Nat.le_refl _) (fun _ h => by cases h)
    have ho3 := zeros_ow hown3
    have hlt3 := ow_lt ho3
    have oM3 := oM2.below hb3 (by omega)
    have B3 := below_more B2 hb3 B2.size
    have hgb : w.heap.size < w2.heap.size := by omega
    have sb3 := hb3.size
    clear hown3 hg3 hi0 hz0 hz1 hz2 oM2 B2 hb3 hz hz' hzz hlt1
    generalize w2.heap.size = gv at *
    generalize hbb : w.heap.size = mb at *
    have HS0 := Lib.hid (told_zero o)
    have HSA := Lib.hid (told_all o)
    rw [HO.out] at HS0 HSA
    go_loopw [16] (fun i wr => ∃ (k : Nat) (D' : DataW Unit), k ≤ M ∧ i = .int .i64 k ∧ MapAt wr mb N D' ∧ (∀ τ : Nat, k ≤ τ → D'.atKey (.int .i64 τ) (.lit (.int .i64 0)) = .lit (.int .i64 (o.getD τ 0))) ∧
      Ow wr gv (gv + 1) (some ⟨gv, 0, none⟩) M M (toldR o k) ∧ Below mb w wr) (fun i _ => M - (intOf i).toNat)
    case atStart => exact ⟨0, D, Nat.zero_le _, rfl, oM3, fun τ _ => HR.out τ, by rw [HS0.out]; exact ho3, B3⟩
    case round =>
      obtain ⟨k, D', hk, rfl, hmk, hat', hok, hbk⟩ := hrel
      have HA := Lib.hid hat'
      have HB := Lib.hid hbk
      have sr := hbk.size
      clear hat' hbk
      by_cases hlt : k < M
      · have hkey : keyOf Try.prog 2 (.int .i64 k) = some (.int .i64 k) := keyOf_int_mk Try.underlying2 (WalkArith.wf_i64 (by omega))
        have hco := hok.cell hlt
        have hfo := hok.free k
        generalize (toldR o k).getD k 0 = v0 at *
        have hne : mb ≠ gv := by omega
        have hlw := ow_lt hok
        have HK := Lib.hid hok
        clear hok
        go_wp2_with (first
          | (at_lookup; refine wpList_lookup_own_int _ rfl _ _ 54 rfl 2 2 .i64 lawI Try.underlying54 Try.underlying2 (zeroI _) mb N D' rfl hmk _ _ rfl hkey ?_; intro cv hcv hwc; have hmk1 := World.ownsMap.setCell (a := ⟨gv, k, none⟩) hmk hne (.int .i64 cv))
          | (at_delete; refine wpList_delete_own _ rfl _ _ 54 2 rfl 2 lawI Try.underlying54 _ mb N D' rfl hmk1 _ _ rfl hkey ?_; intro w5 hm5 ht5)
          | (at_len; refine wpList_len_own _ rfl _ 54 rfl 2 2 Try.underlying54 _ mb N _ rfl hm5 ?_; obtain ⟨z5, hz5⟩ : ∃ z5, Maps.size (D'.del (.int .i64 k)) = z5 := ⟨_, rfl⟩; rw [hz5]))
        · have HCV : Hid (cv = o.getD k 0) := by
            have := hcv.symm.trans (HA.out k (Nat.le_refl _))
            injection this with this
            injection this with _ this
          obtain ⟨h1, h2⟩ := HK.out.set k cv
          have ho5 := h1.grown ht5.grown (fun g e => by cases e; omega)
          have hb5 := (HB.out.grown h2 (by omega) (fun g e => by cases e; omega)).grown ht5.grown (by simp; omega) (fun g e => by cases e; omega)
          rw [HCV.out, told_step (by rw [HO.out]; omega), told_rest (fun τ hτ => by
            have e1 := none_of_size (World.ownsMap.isMap hm5) (by rw [hz5]; simp at *; omega) (.int .i64 τ) (.lit (.int .i64 0))
            rw [atKey_del_other (fun e => by injection e with _ e; omega), HA.out τ (by omega)] at e1
            injection e1 with e1
            injection e1 with _ e1)] at ho5
          go_wp2_with fail
          go_ret
          rw [HN.out]
          exact ⟨_, M, M, rfl, ho5.more (by omega) (by have := ow_lt ho5; omega), by rw [hbb]; exact hb5⟩
        · have HCV : Hid (cv = o.getD k 0) := by
            have := hcv.symm.trans (HA.out k (Nat.le_refl _))
            injection this with this
            injection this with _ this
          obtain ⟨h1, h2⟩ := HK.out.set k cv
          have ho5 := h1.grown ht5.grown (fun g e => by cases e; omega)
          have hb5 := (HB.out.grown h2 (by omega) (fun g e => by cases e; omega)).grown ht5.grown (by simp; omega) (fun g e => by cases e; omega)
          rw [HCV.out, told_step (by rw [HO.out]; omega)] at ho5
          go_roundw
          case rel => exact ⟨k + 1, _, by omega, by go_num, hm5, fun τ hτ => by rw [atKey_del_other (fun e => by injection e with _ e; omega), HA.out τ (by omega)], ho5, hb5⟩
          case measure => simp [intOf]; omega
      · obtain rfl : k = M := by omega
        have hlw := ow_lt hok
        go_wp2_with fail
        go_ret
        rw [HN.out]
        rw [HSA.out] at hok
        exact ⟨_, k, k, rfl, hok.more (by omega) (by omega), by rw [hbb]; exact HB.out⟩

/-- The first k words of ys, and zeros behind. -/
def mixK (ys : List Int) (k : Nat) : List Int := ys.take k ++ List.replicate (8 - k) 0
theorem mixK_zero (ys : List Int) : mixK ys 0 = List.replicate 8 0 := by simp [mixK]
theorem mixK_all {ys : List Int} (h : ys.length = 8) : mixK ys 8 = ys := by unfold mixK; rw [List.take_of_length_le (by omega)]; simp
theorem mixK_length {ys : List Int} (h : ys.length = 8) {k : Nat} (hk : k ≤ 8) : (mixK ys k).length = 8 := by unfold mixK; simp; omega
theorem mixK_step {ys : List Int} (h : ys.length = 8) {k : Nat} (hk : k < 8) : (mixK ys k).set k (ys.getD k 0) = mixK ys (k + 1) := by
  unfold mixK
  have e : k - (ys.take k).length = 0 := by simp; omega
  rw [show 8 - k = (8 - (k + 1)) + 1 by omega, List.replicate_succ, List.set_append, if_neg (by simp; omega), e, List.getD_eq_getElem?_getD, List.getElem?_eq_getElem (by omega), List.take_succ_eq_append_getElem (by omega), List.append_assoc]
  rfl

theorem list8 {ys : List Int} (h : ys.length = 8) : ∃ a b c d e f g i, ys = [a, b, c, d, e, f, g, i] := by
  match ys, h with
  | [a, b, c, d, e, f, g, i], _ => exact ⟨a, b, c, d, e, f, g, i, rfl⟩

/-- An array of eight words. -/
def arrV (ys : List Int) : Value := .agg (iv ys).toArray

set_option maxRecDepth 100000 in
set_option maxHeartbeats 2000000 in
theorem entriesOf_any (G : Option Addr) (cg : Nat) (ys : List Int) (w : World) (hr : Rd w w.heap.size G 8 ys) :
    Calls Try.prog 42 #[.slice G 8 cg] w fun e w' => e = .returned (arrV ys) ∧ Below w.heap.size w w' := by
  have hl := hr.len
  obtain ⟨b, off, rfl, hb, hc⟩ := hr.2 (by omega)
  have HC := Lib.hid hc
  have HL := Lib.hid hl
  clear hr hc hl
  have z0 : (iv (List.replicate 8 0)).toArray = #[.int .i64 0, .int .i64 0, .int .i64 0, .int .i64 0, .int .i64 0, .int .i64 0, .int .i64 0, .int .i64 0] := rfl
  go_enter Try.func42, Try.ntmps42
  go_wp2_with fail
  generalize hob : Obj.cells #[Value.int .i64 0, Value.int .i64 0, Value.int .i64 0, Value.int .i64 0, Value.int .i64 0, Value.int .i64 0, Value.int .i64 0, Value.int .i64 0] 51 = ob at *
  have hob2 : ob = .cells (iv (List.replicate 8 0)).toArray 51 (0, 0) := by rw [z0]; exact hob.symm
  clear hob z0
  have b1 := (Below.refl w.heap.size w).alloc (Nat.le_refl _) ob
  have b2 := b1.alloc b1.size ob
  have h1 : ((w.alloc ob).alloc ob).heap[w.heap.size]? = some (.cells (iv (List.replicate 8 0)).toArray 51 (0, 0)) := by
    rw [heap_alloc_old _ _ (by simp), heap_alloc_new, hob2]
  have h2 : ((w.alloc ob).alloc ob).heap[w.heap.size + 1]? = some (.cells (iv (mixK ys 0)).toArray 51 (0, 0)) := by
    rw [heap_alloc2_new, hob2, mixK_zero]
  clear b1
  generalize (w.alloc ob).alloc ob = w2 at *
  go_loopw [8] (fun i wr => ∃ k : Nat, k ≤ 8 ∧ i = .int .i64 k ∧ wr.heap[w.heap.size]? = some (.cells (iv (List.replicate 8 0)).toArray 51 (0, 0)) ∧
    wr.heap[w.heap.size + 1]? = some (.cells (iv (mixK ys k)).toArray 51 (0, 0)) ∧ Below w.heap.size w wr) (fun i _ => 8 - (intOf i).toNat)
  case atStart => exact ⟨0, by omega, rfl, h1, h2, b2⟩
  case round =>
    obtain ⟨k, hk, rfl, hz, hm, hB⟩ := hrel
    clear h1 h2
    by_cases hlt : k < 8
    · have e0 : wr.cell? ⟨b, off + k, none⟩ = some (.int .i64 (ys.getD k 0)) := (hB.cell (p := ⟨b, off + k, none⟩) hb).trans (HC.out k hlt)
      have HS := Lib.hid (mixK_step HL.out hlt)
      have HML := Lib.hid (mixK_length (ys := ys) HL.out hk)
      have hf := frozen_of_row wr (w.heap.size + 1) k _ _ hm
      have hc1 : ∃ v, wr.cell? ⟨w.heap.size + 1, k, none⟩ = some (.int .i64 v) := ⟨_, by rw [cell_of_row wr _ k _ _ _ hm, List.getElem?_toArray, iv_get _ k (by rw [HML.out]; omega)]⟩
      obtain ⟨v, hc1⟩ := hc1
      have HM := Lib.hid hm
      have HZ := Lib.hid hz
      have HB := Lib.hid hB
      clear hm hz hB hob2
      generalize ys.getD k 0 = x at *
      go_wp2_with fail
      go_roundw
      case rel =>
        have hn1 : (wr.setCell ⟨w.heap.size + 1, k, none⟩ (.int .i64 x)).heap[w.heap.size + 1]? = some (.cells (iv (mixK ys (k + 1))).toArray 51 (0, 0)) := by
          rw [← HS.out]
          have := HM.out
          simp only [World.setCell, Array.getElem?_modify]
          simp [this, ← iv_set]
        exact ⟨k + 1, by omega, by go_num, (Below.heap_setCell _ _ _ _ (by show w.heap.size ≠ w.heap.size + 1; omega)).trans HZ.out, hn1, HB.out.setCell (by show w.heap.size ≤ w.heap.size + 1; omega) _⟩
      case measure => simp [intOf]; omega
    · obtain rfl : k = 8 := by omega
      rw [mixK_all HL.out] at hm
      obtain ⟨x0, x1, x2, x3, x4, x5, x6, x7, rfl⟩ := list8 HL.out
      have hcm : ∀ j, wr.cell? ⟨w.heap.size + 1, j, none⟩ = (iv [x0, x1, x2, x3, x4, x5, x6, x7]).toArray[j]? := fun j => cell_of_row wr _ j _ _ _ hm
      have hfz : ∀ j, wr.frozen? ⟨w.heap.size, j, none⟩ = false := fun j => frozen_of_row wr _ j _ _ hz
      have hcz : ∀ j, wr.cell? ⟨w.heap.size, j, none⟩ = (iv (List.replicate 8 0)).toArray[j]? := fun j => cell_of_row wr _ j _ _ _ hz
      have c0 : wr.cell? ⟨w.heap.size + 1, 0, none⟩ = some (.int .i64 x0) := hcm 0
      have c1 : wr.cell? ⟨w.heap.size + 1, 1, none⟩ = some (.int .i64 x1) := hcm 1
      have c2 : wr.cell? ⟨w.heap.size + 1, 2, none⟩ = some (.int .i64 x2) := hcm 2
      have c3 : wr.cell? ⟨w.heap.size + 1, 3, none⟩ = some (.int .i64 x3) := hcm 3
      have c4 : wr.cell? ⟨w.heap.size + 1, 4, none⟩ = some (.int .i64 x4) := hcm 4
      have c5 : wr.cell? ⟨w.heap.size + 1, 5, none⟩ = some (.int .i64 x5) := hcm 5
      have c6 : wr.cell? ⟨w.heap.size + 1, 6, none⟩ = some (.int .i64 x6) := hcm 6
      have c7 : wr.cell? ⟨w.heap.size + 1, 7, none⟩ = some (.int .i64 x7) := hcm 7
      have z0 : wr.cell? ⟨w.heap.size, 0, none⟩ = some (.int .i64 0) := hcz 0
      have z1 : wr.cell? ⟨w.heap.size, 1, none⟩ = some (.int .i64 0) := hcz 1
      have z2 : wr.cell? ⟨w.heap.size, 2, none⟩ = some (.int .i64 0) := hcz 2
      have z3 : wr.cell? ⟨w.heap.size, 3, none⟩ = some (.int .i64 0) := hcz 3
      have z4 : wr.cell? ⟨w.heap.size, 4, none⟩ = some (.int .i64 0) := hcz 4
      have z5 : wr.cell? ⟨w.heap.size, 5, none⟩ = some (.int .i64 0) := hcz 5
      have z6 : wr.cell? ⟨w.heap.size, 6, none⟩ = some (.int .i64 0) := hcz 6
      have z7 : wr.cell? ⟨w.heap.size, 7, none⟩ = some (.int .i64 0) := hcz 7
      have f0 := hfz 0
      have f1 := hfz 1
      have f2 := hfz 2
      have f3 := hfz 3
      have f4 := hfz 4
      have f5 := hfz 5
      have f6 := hfz 6
      have f7 := hfz 7
      have HB := Lib.hid hB
      have HZ := Lib.hid hz
      clear hcm hcz hm hz hB hfz hob2
      go_wp2_with fail
      obtain ⟨q1, q2⟩ := setCells_block w.heap.size 51 [.int .i64 x0, .int .i64 x1, .int .i64 x2, .int .i64 x3, .int .i64 x4, .int .i64 x5, .int .i64 x6, .int .i64 x7] 0 wr (iv (List.replicate 8 0)) HZ.out (Nat.le_refl 8)
      refine bodyPost_ret (v := arrV [x0, x1, x2, x3, x4, x5, x6, x7]) (results_cell_row rfl _ _ w.heap.size 51 _ (0, 0) _ rfl q1 Try.underlying51 rfl (by kernel_rfl)) rfl ⟨rfl, ?_⟩
      exact HB.out.grown q2 HB.out.size (fun q e => by cases e; exact Nat.le_refl _)

theorem secW_zero (b : List Int) : secW b 0 = true := rfl
theorem secW_other (b : List Int) {x : Int} (h : (x == 0) = false) (hw : wordB x = true) : secW b x = thereB b (x % 32768) := by unfold secW; rw [h, targetOf_yes hw]; rfl

/-- Does the word lead on, or is it 0? -/
theorem leadsOn_any (A : Option Addr) (n c Bx : Nat) (xs : List Int) (x : Int) (w : World) (hr : Rd w w.heap.size A n xs) (hn : n ≤ 2097152) (hi : imgB xs = true) (hb : w.cell? ⟨Bx, 0, none⟩ = some (.slice A n c)) (hw : wordB x = true) :
    Calls Try.prog 38 #[.int .i64 x, .pointer (some ⟨Bx, 0, none⟩)] w (RetB w (secW xs x)) := by
  cases hx : (x == 0)
  · have HN := Lib.hid (secW_other xs hx hw)
    have hB := World.block_lt_of_cell? w _ hb
    have hrd : Rd w.drew w.drew.heap.size A n xs := hr
    go_enter Try.func38, Try.ntmps38
    go_wp2_with fail
    go_region_held3 (fun w' => w'.cell? ⟨Bx, 0, none⟩ = some (.slice A n c))
      (first
        | go_keep
        | (exact (b7.cell (p := ⟨Bx, 0, none⟩) hB).trans (by assumption)))
      (first
        | (go_at_call 40; refine (entTarget_any _ _ hw).mono ?_; rintro e w7 ⟨rfl, rfl⟩)
        | (go_at_call 39; refine (isThere_any A n c xs _ w.drew hrd hn hi).mono ?_; rintro e w7 ⟨rfl, b7⟩))
    all_goals
      go_wp2_with fail
      go_ret
      rw [HN.out]
      exact ⟨rfl, ⟨b7.os, b7.tape, b7.output, b7.size, b7.block⟩⟩
  · have HN : Hid (secW xs x = true) := by rw [show x = 0 by simpa using hx]; exact secW_zero xs
    go_enter Try.func38, Try.ntmps38
    go_wp2_with fail
    go_quiet (fail)
    go_wp2_with fail
    go_ret
    rw [HN.out]
    exact ⟨rfl, ⟨rfl, rfl, rfl, Nat.le_refl _, fun _ _ => rfl⟩⟩

theorem run_index_arr {ys : List Int} {k : Nat} (hl : ys.length = 8) (hk : k < 8) (w : World) : (Instr.index 51 (arrV ys) (.int .i64 (k : Int))).run Try.prog w = .ok (.int .i64 (ys.getD k 0)) w := by
  have h1 : (0 : Int) ≤ k ∧ (k : Int) < (8 : Nat) := by omega
  have h2 : (iv ys)[k]? = some (.int .i64 (ys.getD k 0)) := iv_get ys k (by omega)
  unfold arrV
  simp [Instr.index, run_underlying Try.underlying51, asIntOf, h1, h2, go_sem]
  exact fun h => absurd h (by omega)

set_option maxRecDepth 100000 in
set_option maxHeartbeats 4000000 in
theorem looksLike_any (A : Option Addr) (n c Bx : Nat) (xs ys : List Int) (w : World) (hr : Rd w w.heap.size A n xs) (hn : n ≤ 2097152) (hi : imgB xs = true) (hb : w.cell? ⟨Bx, 0, none⟩ = some (.slice A n c)) (hl : ys.length = 8) (hw : ∀ j, j < 8 → wordB (ys.getD j 0) = true) :
    Calls Try.prog 41 #[arrV ys, .func (.func 38) #[] #[.pointer (some ⟨Bx, 0, none⟩)], .func (.func 44) #[] #[]] w (RetB w (ys.all (secW xs) && ys.any ownIn)) := by
  have HW := Lib.hid hw
  have HR := Lib.hid hr
  have hB := World.block_lt_of_cell? w _ hb
  have HBX := Lib.hid hb
  clear hw hr hb
  obtain ⟨x0, x1, x2, x3, x4, x5, x6, x7, hys⟩ := list8 hl
  have HYS := Lib.hid hys
  have hcm : ∀ j, (w.alloc (.cells (iv ys).toArray 51)).cell? ⟨w.heap.size, j, none⟩ = (iv [x0, x1, x2, x3, x4, x5, x6, x7]).toArray[j]? := fun j => by rw [World.cell?_alloc_new, hys]
  have c0 : (w.alloc (.cells (iv ys).toArray 51)).cell? ⟨w.heap.size, 0, none⟩ = some (.int .i64 x0) := hcm 0
  have c1 : (w.alloc (.cells (iv ys).toArray 51)).cell? ⟨w.heap.size, 1, none⟩ = some (.int .i64 x1) := hcm 1
  have c2 : (w.alloc (.cells (iv ys).toArray 51)).cell? ⟨w.heap.size, 2, none⟩ = some (.int .i64 x2) := hcm 2
  have c3 : (w.alloc (.cells (iv ys).toArray 51)).cell? ⟨w.heap.size, 3, none⟩ = some (.int .i64 x3) := hcm 3
  have c4 : (w.alloc (.cells (iv ys).toArray 51)).cell? ⟨w.heap.size, 4, none⟩ = some (.int .i64 x4) := hcm 4
  have c5 : (w.alloc (.cells (iv ys).toArray 51)).cell? ⟨w.heap.size, 5, none⟩ = some (.int .i64 x5) := hcm 5
  have c6 : (w.alloc (.cells (iv ys).toArray 51)).cell? ⟨w.heap.size, 6, none⟩ = some (.int .i64 x6) := hcm 6
  have c7 : (w.alloc (.cells (iv ys).toArray 51)).cell? ⟨w.heap.size, 7, none⟩ = some (.int .i64 x7) := hcm 7
  have b1 := (Below.refl w.heap.size w).alloc (Nat.le_refl _) (.cells (iv ys).toArray 51)
  have HL := Lib.hid hl
  clear hcm hys hl
  unfold arrV
  go_enter Try.func41, Try.ntmps41
  go_wp2_with fail
  clear c0 c1 c2 c3 c4 c5 c6 c7
  generalize (w.alloc (.cells (iv ys).toArray 51)) = w1 at *
  have hagg : Value.agg #[.int .i64 x0, .int .i64 x1, .int .i64 x2, .int .i64 x3, .int .i64 x4, .int .i64 x5, .int .i64 x6, .int .i64 x7] = arrV ys := by rw [HYS.out]; rfl
  rw [hagg]
  have HA : Hid (Value.agg (iv ys).toArray = arrV ys) := rfl
  rw [HA.out]
  clear hagg HA HYS
  go_loopw [7, 11] (fun f i wr => ∃ k : Nat, k ≤ 8 ∧ i = .int .i64 k ∧ f = .bool ((ys.take k).any ownIn) ∧ (ys.take k).all (secW xs) = true ∧ Below w.heap.size w wr) (fun _ i _ => 8 - (intOf i).toNat)
  case atStart => exact ⟨0, by omega, rfl, rfl, rfl, b1⟩
  case round =>
    obtain ⟨k, hk, rfl, rfl, hall, hB1⟩ := hrel
    by_cases hlt : k < 8
    · have hix := fun w => run_index_arr HL.out hlt w
      have hxw := HW.out k hlt
      have HNa := Lib.hid (all_next (secW xs) ys k (by rw [HL.out]; exact hlt) hall)
      have HNy := Lib.hid (any_next ownIn ys k (by rw [HL.out]; exact hlt))
      have HF := Lib.hid (all_fails (secW xs) ys k (by rw [HL.out]; exact hlt))
      have HOw := Lib.hid (show ownIn (ys.getD k 0) = decide (32768 ≤ ys.getD k 0) by unfold ownIn; rw [hxw]; rfl)
      generalize ys.getD k 0 = x at *
      generalize (ys.take k).any ownIn = fd at *
      go_wp2_with fail
      refine (leadsOn_any A n c Bx xs x wr ((HR.out.below hB1).more hB1.size) hn hi ((hB1.cell (p := ⟨Bx, 0, none⟩) hB).trans HBX.out) hxw).mono ?_
      rintro e w2 ⟨rfl, b2⟩
      have B2 := below_more hB1 b2 hB1.size
      cases hsx : secW xs x
      · have HN : Hid ((ys.all (secW xs) && ys.any ownIn) = false) := by rw [HF.out hsx]; rfl
        go_wp2_with fail
        go_ret
        rw [HN.out]
        exact ⟨rfl, B2⟩
      · rw [hsx] at HNa
        cases fd
        · go_wp2_with fail
          refine (entOwn_any _ _ hxw).mono ?_
          rintro e w3 ⟨rfl, rfl⟩
          go_wp2_with fail
          go_roundw
          case rel => exact ⟨k + 1, by omega, by go_num, by rw [HNy.out, HOw.out]; rfl, HNa.out, B2⟩
          case measure => simp [intOf]; omega
        · go_wp2_with fail
          go_roundw
          case rel => exact ⟨k + 1, by omega, by go_num, by rw [HNy.out]; rfl, HNa.out, B2⟩
          case measure => simp [intOf]; omega
    · obtain rfl : k = 8 := by omega
      rw [List.take_of_length_le (by rw [HL.out]; omega)] at hall
      have HN : Hid ((ys.all (secW xs) && ys.any ownIn) = (ys.take 8).any ownIn) := by rw [hall, List.take_of_length_le (by rw [HL.out]; omega)]; rfl
      go_wp2_with fail
      go_ret
      rw [HN.out]
      exact ⟨rfl, hB1⟩

theorem cl_wordB {xs : List Int} (hi : imgB xs = true) (a j : Nat) (hj : j < 8) : wordB ((cl xs a).getD j 0) = true := by
  rw [cl_word_get xs a j hj]
  exact inB_true.2 (word_get hi _)

theorem sec_low {xs : List Int} {a : Int} (h : a < 1) : secLikeB xs a = false := by
  rw [sec_parts, show inB a 1 (((rolesL xs).length : Int) - 1) = false from inB_false.2 (fun hh => by omega)]; rfl
theorem sec_high {xs : List Int} {a : Int} (h : ((rolesL xs).length : Int) ≤ a) : secLikeB xs a = false := by
  rw [sec_parts, show inB a 1 (((rolesL xs).length : Int) - 1) = false from inB_false.2 (fun hh => by omega)]; rfl
theorem sec_role {xs : List Int} {a : Nat} (h : (rolesL xs).getD a 0 ≠ 0) : secLikeB xs a = false := by
  rw [sec_parts, Int.toNat_natCast, show ((rolesL xs).getD a 0 == 0) = false by simpa using h, Bool.and_false]; rfl
theorem sec_there {xs : List Int} {a : Nat} (h1 : 1 ≤ a) (h2 : a < (rolesL xs).length) (h : (rolesL xs).getD a 0 = 0) : secLikeB xs a = ((cl xs a).all (secW xs) && (cl xs a).any ownIn) := by
  rw [sec_parts, Int.toNat_natCast, h, show inB (a : Int) 1 (((rolesL xs).length : Int) - 1) = true from inB_true.2 (by omega)]; rfl

set_option maxRecDepth 100000 in
set_option maxHeartbeats 4000000 in
theorem isLost_any (hT : TableC) (A : Option Addr) (n c : Nat) (xs : List Int) (G : Option Addr) (m cg : Nat) (a : Int) (w : World) (hr : Rd w w.heap.size A n xs) (hg : Rd w w.heap.size G m (rolesL xs)) (hn : n ≤ 2097152) (hnc : n ≤ c) :
    Calls Try.prog 22 #[.slice A n c, .slice G m cg, .int .i64 a] w (RetB w (secLikeB xs a)) := by
  have hgl := hg.len
  have b1 := (Below.refl w.heap.size w).alloc (Nat.le_refl _) (.cells #[.slice A n c] 22)
  by_cases h1 : a < 1
  · have HN := Lib.hid (sec_low (xs := xs) h1)
    go_enter Try.func22, Try.ntmps22
    go_wp2_with fail
    go_ret
    rw [HN.out]
    exact ⟨rfl, b1⟩
  have d1 : decide (a < 1) = false := by simpa using h1
  obtain ⟨τ, rfl⟩ := Int.eq_ofNat_of_zero_le (show 0 ≤ a by omega)
  by_cases h2 : m ≤ τ
  · have HN := Lib.hid (sec_high (xs := xs) (a := (τ : Int)) (by rw [hgl]; omega))
    go_enter Try.func22, Try.ntmps22
    go_wp2_with fail
    go_ret
    rw [HN.out]
    exact ⟨rfl, b1⟩
  have d2 : decide ((m : Int) ≤ (τ : Int)) = false := by simp; omega
  obtain ⟨b, off, rfl, hb, hc⟩ := hg.2 (by omega)
  have hcell := hc τ (by omega)
  have hc2 : (w.alloc (.cells #[.slice A n c] 22)).cell? ⟨b, off + τ, none⟩ = some (.int .i64 ((rolesL xs).getD τ 0)) := by rw [World.cell?_alloc_lt _ _ ⟨b, off + τ, none⟩ hb]; exact hcell
  have HS1 := Lib.hid (fun h => sec_role (xs := xs) (a := τ) h)
  have HS2 := Lib.hid (fun h => sec_there (xs := xs) (a := τ) (by omega) (by rw [hgl]; omega) h)
  have hrm := roles_many (b := xs) (by rw [hgl]; omega)
  clear hc hg hcell
  generalize (rolesL xs).getD τ 0 = rv at *
  by_cases h3 : rv = 0
  · subst h3
    have d3 : ((0 : Int) != 0) = false := by simp
    have HN := Lib.hid (HS2.out rfl)
    have hth : thereB xs (τ : Int) = true := inB_true.2 (by rw [← hrm.2, hgl]; omega)
    have HT := Lib.hid (tableL_in hrm.1 hth)
    rw [Int.toNat_natCast] at HT
    have x1 : (w.alloc (.cells #[.slice A n c] 22)).cell? ⟨w.heap.size, 0, none⟩ = some (.slice A n c) := by rw [World.cell?_alloc_new]; rfl
    have hr1 := (hr.below b1).more b1.size
    have HR := Lib.hid hrm
    clear HS1 HS2 hrm hth hgl
    go_enter Try.func22, Try.ntmps22
    go_wp2_with fail
    generalize (w.alloc (.cells #[.slice A n c] 22)) = w1 at *
    refine (hT A n c xs (τ : Int) w1 hr1 hn hnc).mono ?_
    rw [HT.out]
    rintro e w2 ⟨C, nc, cc, rfl, oC, b2⟩
    obtain rfl : 8 = nc := by have := oC.len; rw [cl_length] at this; exact this
    have b02 := below_more b1 b2 b1.size
    have x2 := (b2.cell (p := ⟨w.heap.size, 0, none⟩) (World.block_lt_of_cell? w1 _ x1)).trans x1
    go_wp2_with fail
    refine (entriesOf_any C cc _ w2 oC.rd).mono ?_
    rintro e w3 ⟨rfl, b3⟩
    have b03 := below_more b02 b3 b02.size
    have x3 := (b3.cell (p := ⟨w.heap.size, 0, none⟩) (World.block_lt_of_cell? w2 _ x2)).trans x2
    go_wp2_with fail
    refine (looksLike_any A n c w.heap.size xs (cl xs τ) w3 ((hr.below b03).more b03.size) hn (hasHead_img HR.out.1) x3 (cl_length xs τ) (fun j hj => cl_wordB (hasHead_img HR.out.1) τ j hj)).mono ?_
    rintro e w4 ⟨rfl, b4⟩
    go_wp2_with fail
    go_ret
    rw [HN.out]
    exact ⟨rfl, below_more b03 b4 b03.size⟩
  · have d3 : (rv != 0) = true := by simpa using h3
    have HN := Lib.hid (HS1.out h3)
    go_enter Try.func22, Try.ntmps22
    go_wp2_with fail
    go_ret
    rw [HN.out]
    exact ⟨rfl, b1⟩

theorem implSecLike_any (hT : TableC) (hRo : RolesC) : SecLikeC := by
  intro A n c xs a w h hn hnc
  go_enter Try.func8, Try.ntmps8
  go_wp2_with fail
  refine (hRo A n c xs w h hn hnc).mono ?_
  rintro e w1 ⟨G, ng, cg, rfl, oG, b1⟩
  go_wp2_with fail
  refine (isLost_any hT A n c xs G ng cg a w1 ((h.below b1).more b1.size) oG.rd hn hnc).mono ?_
  rintro e w2 ⟨rfl, b2⟩
  go_wp2_with fail
  go_ret
  exact ⟨rfl, below_more b1 b2 b1.size⟩

/-- How many slots of a first table are in use. -/
theorem slotsUsed_any (s : Int) (w : World) (h0 : 0 ≤ s) (h1 : s ≤ 64) :
    Calls Try.prog 26 #[.int .i64 s] w fun e w' => e = .returned (.int .i64 ((s + 7) / 8)) ∧ w = w' := by
  have HE := Lib.hid (show (s + 8 - 1) / 8 = (s + 7) / 8 by omega)
  go_enter Try.func26, Try.ntmps26
  go_wp2_with fail
  go_ret
  exact ⟨ret_int (by omega), rfl⟩

/-- Those that are found below k. -/
def lostF (b : List Int) (k : Nat) : List Int := (List.range (k - 1)).foldl (lostStep b) []
theorem lostF_all (b : List Int) : lostF b (rolesL b).length = lostL b := rfl
theorem lostF_short (b : List Int) (k : Nat) : (lostF b k).length ≤ k := by have := lost_short b (k - 1); unfold lostF; omega
theorem lostF_step (b : List Int) (k : Nat) : lostF b (k + 1) = if secLikeB b (k : Int) = true ∧ ((lostF b k).length : Int) < ((headIn b).1.size + 7) / 8 then lostF b k ++ [(k : Int)] else lostF b k := by
  cases k with
  | zero =>
    rw [sec_low (show ((0 : Nat) : Int) < 1 by omega), if_neg (fun h => by cases h.1)]
    rfl
  | succ k =>
    show (List.range (k + 1)).foldl (lostStep b) [] = _
    rw [List.range_succ, List.foldl_append]
    show lostStep b (lostF b (k + 1)) k = _
    unfold lostStep
    rw [show ((k + 1 : Nat) : Int) = (k : Int) + 1 by omega]

set_option maxRecDepth 100000 in
set_option maxHeartbeats 4000000 in
theorem implLost_any (hT : TableC) (hRo : RolesC) : LostC := by
  intro A n c xs w h hn hnc
  obtain ⟨i0, hi0, hz0, hz1, hz2⟩ := info_parts info2
  go_enter Try.func11, Try.ntmps11
  go_wp2_with fail
  refine (implHeadIn_any A n c xs w h hn).mono ?_
  rintro e w1 ⟨rfl, b1⟩
  have HST := Lib.hid (fun k => lostF_step xs k)
  have HSH := Lib.hid (fun k => lostF_short xs k)
  have HAL := Lib.hid (lostF_all xs)
  have h64 := rolesL_length (xs := xs)
  have HSZ : Hid (0 ≤ (headIn xs).1.size ∧ (headIn xs).1.size ≤ 64) := by
    cases hh : hasHead xs
    · rw [headIn_no hh]; simp [hd0, Hid]
    · rw [headIn_yes hh]; have := (headB_all (hasHead_ok hh)).1; exact ⟨by simp only; omega, by simp only; omega⟩
  generalize headIn xs = r at *
  obtain ⟨⟨s, f, r, u, m⟩, is⟩ := r
  have hsz2 := HSZ.out
  simp only at hsz2
  unfold hdV
  have y2 : HBox (w1.alloc (.cells #[.int .i64 s, .int .i64 f, .int .i64 r, .int .i64 u, .int .i64 m] 34)) w1.heap.size ⟨s, f, r, u, m⟩ := HBox.new w1 ⟨s, f, r, u, m⟩
  have b2 := b1.alloc b1.size (.cells #[.int .i64 s, .int .i64 f, .int .i64 r, .int .i64 u, .int .i64 m] 34)
  clear HSZ
  go_wp2_with fail
  generalize (w1.alloc (.cells #[.int .i64 s, .int .i64 f, .int .i64 r, .int .i64 u, .int .i64 m] 34)) = w2 at *
  refine (hRo A n c xs w2 ((h.below b2).more b2.size) hn hnc).mono ?_
  rintro e w3 ⟨G, ng, cg, rfl, oG, b3⟩
  have b03 := below_more b2 b3 b2.size
  have y3 := y2.keep (b3.block _ y2.lt)
  have hng := oG.len
  have hrd := oG.rd
  rw [hng] at HAL h64
  have HR := Lib.hid hrd
  clear hrd oG y2 b2 b3 b1
  go_wp2_with fail
  go_loopw [6, 17] (fun v i wr => ∃ (k c' : Nat) (A' : Option Addr), k ≤ ng ∧ i = .int .i64 k ∧ v = .slice A' (lostF xs k).length c' ∧ OwR 2 1 wr w3.heap.size wr.heap.size A' (lostF xs k).length c' (iv (lostF xs k)) ∧ Below w3.heap.size w3 wr) (fun _ i _ => ng - (intOf i).toNat)
  case atStart => exact ⟨0, 0, none, Nat.zero_le _, rfl, rfl, OwR.nil _ _ _ _ _, Below.refl _ _⟩
  case round =>
    obtain ⟨k, c', A', hk, rfl, rfl, ho, hB⟩ := hrel
    have hsh := HSH.out k
    have sr := hB.size
    by_cases hlt : k < ng
    · have HSk := Lib.hid (HST.out k)
      have q0 : wr.cell? ⟨w1.heap.size, 0, none⟩ = some (.int .i64 s) := (hB.cell (p := ⟨w1.heap.size, 0, none⟩) y3.lt).trans (y3.cell 0)
      generalize lostF xs k = fs at *
      have hBB := below_more b03 hB b03.size
      have hr4 := (h.below hBB).more hBB.size
      have hg4 := (HR.out.below hB).more sr
      have hu0 : 0 ≤ s := by omega
      have hu1 : s ≤ 64 := by omega
      go_wp2_with fail
      refine (slotsUsed_any s wr hu0 hu1).mono ?_
      rintro e w' ⟨rfl, rfl⟩
      by_cases hq : (fs.length : Int) < (s + 7) / 8
      · have d2 : decide ((fs.length : Int) < (s + 7) / 8) = true := by simpa using hq
        go_wp2_with fail
        refine (isLost_any hT A n c xs G ng cg (k : Int) wr hr4 hg4 hn hnc).mono ?_
        rintro e w4 ⟨rfl, b4⟩
        have s4 := b4.size
        have B4 := below_more hB b4 hB.size
        have ho4 := ho.below b4 (Nat.le_refl _)
        cases hsl : secLikeB xs (k : Int)
        · have HE : Hid (lostF xs (k + 1) = fs) := by rw [HSk.out, hsl]; simp [Hid]
          clear HSk hsl
          go_wp2_with fail
          go_roundw
          case rel => exact ⟨k + 1, c', A', by omega, by go_num, by rw [HE.out], by rw [HE.out]; exact ho4.more (Nat.le_refl _) (by omega), B4⟩
          case measure => simp [intOf]; omega
        · have HE : Hid (lostF xs (k + 1) = fs ++ [(k : Int)]) := by rw [HSk.out, hsl, if_pos ⟨rfl, hq⟩]; exact rfl
          clear HSk hsl hq
          have ho5 := ho4.more (lo' := w3.heap.size) (hi' := w4.heap.size) (Nat.le_refl _) (by omega)
          go_wp2_with (at_builtin; refine wpList_append_r rfl (.tmp 32) (.tmp 34) 22 rfl 2 1 8 _ i0 Try.underlying22 hi0 hz0 hz1 hz2 rfl (by omega) (by omega) w3.heap.size w4.heap.size fs.length c' A' _ rfl ho5 #[.int .i64 (k : Int)] 1 1 w4.heap.size rfl rfl (by omega) rfl (by simp [Value.oneCell']) (by omega) (by omega) ?_; intro g5 cd w5 ho6 hb5)
          go_roundw
          case rel =>
            refine ⟨k + 1, cd, some ⟨g5, 0, none⟩, by omega, by go_num, by rw [HE.out]; simp, ?_, ⟨hb5.os.trans B4.os, hb5.tape.trans B4.tape, hb5.output.trans B4.output, Nat.le_trans B4.size hb5.size, fun q hq => (hb5.block q hq).trans (B4.block q hq)⟩⟩
            rw [HE.out, ← iv_one, List.length_append]
            exact ho6
          case measure => simp [intOf]; omega
      · have d2 : decide ((fs.length : Int) < (s + 7) / 8) = false := by simpa using hq
        have HE : Hid (lostF xs (k + 1) = fs) := by rw [HSk.out, if_neg (fun h => hq h.2)]; exact rfl
        clear HSk hq
        go_wp2_with fail
        go_roundw
        case rel => exact ⟨k + 1, c', A', by omega, by go_num, by rw [HE.out], by rw [HE.out]; exact ho, hB⟩
        case measure => simp [intOf]; omega
    · obtain rfl : k = ng := by omega
      have HE : lostF xs k = lostL xs := HAL.out
      rw [HE] at ho ⊢
      go_wp2_with fail
      go_ret
      exact ⟨A', _, c', rfl, ⟨(ho.more b03.size (Nat.le_refl _)).own, (ho.more b03.size (Nat.le_refl _)).top⟩, below_more b03 hB b03.size⟩

theorem boxS_keep {w w' : World} {B g : Nat} {a0 a1 a2 a3 a4 : Value} (hb : Below B w w') (hg : g < B) (h0 : w.cell? ⟨g, 0, none⟩ = some a0) (h1 : w.cell? ⟨g, 1, none⟩ = some a1) (h2 : w.cell? ⟨g, 2, none⟩ = some a2) (h3 : w.cell? ⟨g, 3, none⟩ = some a3) (h4 : w.cell? ⟨g, 4, none⟩ = some a4) :
    w'.cell? ⟨g, 0, none⟩ = some a0 ∧ w'.cell? ⟨g, 1, none⟩ = some a1 ∧ w'.cell? ⟨g, 2, none⟩ = some a2 ∧ w'.cell? ⟨g, 3, none⟩ = some a3 ∧ w'.cell? ⟨g, 4, none⟩ = some a4 :=
  ⟨(hb.cell (p := ⟨g, 0, none⟩) hg).trans h0, (hb.cell (p := ⟨g, 1, none⟩) hg).trans h1, (hb.cell (p := ⟨g, 2, none⟩) hg).trans h2, (hb.cell (p := ⟨g, 3, none⟩) hg).trans h3, (hb.cell (p := ⟨g, 4, none⟩) hg).trans h4⟩

theorem lost_some {b : List Int} {x : Int} : ∀ k : Nat, x ∈ (List.range k).foldl (lostStep b) [] → 1 ≤ x ∧ x ≤ k
  | 0, h => by simp at h
  | k + 1, h => by
    rw [List.range_succ, List.foldl_append] at h
    have ih := lost_some (b := b) (x := x) k
    change x ∈ lostStep b ((List.range k).foldl (lostStep b) []) k at h
    unfold lostStep at h ih
    split at h
    · rw [List.mem_append, List.mem_singleton] at h
      rcases h with h | rfl
      · have := ih h; omega
      · omega
    · have := ih h; omega
theorem entry_word {t : Int} (h0 : 0 ≤ t) (h1 : t ≤ 32767) : wordB (entryOf t true) = true := by
  unfold entryOf
  rw [if_pos (inB_true.2 ⟨h0, h1⟩), if_pos rfl]
  exact inB_true.2 (by omega)
theorem lostT_ok (b : List Int) : eightB (lostT b) = true := by
  unfold eightB lostT wordsB
  rw [Bool.and_eq_true, decide_eq_true_eq, List.all_eq_true]
  refine ⟨by simp, fun x hx => ?_⟩
  rw [List.mem_map] at hx
  obtain ⟨i, _, rfl⟩ := hx
  split
  · rename_i hi
    have hmem : (lostL b).getD i 0 ∈ lostL b := by
      rw [List.getD_eq_getElem?_getD, List.getElem?_eq_getElem hi]
      exact List.getElem_mem hi
    have h1 := lost_some _ hmem
    have h2 := rolesL_length (xs := b)
    exact entry_word (by omega) (by omega)
  · rfl
theorem headW_ok {h : Hd} (hb : headB h = true) : eightB (hdW h) = true := by
  obtain ⟨h1, h2, h3, h4, h5⟩ := headB_all hb
  simp only [eightB, hdW, List.length_cons, List.length_nil, List.all_cons, List.all_nil, wordsB, wordB, inB, Bool.and_eq_true, decide_eq_true_eq]
  simp
  omega
theorem head_first {h : Hd} (hb : headB h = true) {x : Int} (h0 : 0 ≤ x) (h1 : x ≤ 65535) : headB { h with first := x } = true := by
  obtain ⟨h1, h2, h3, h4, h5⟩ := headB_all hb
  simp only [headB, wordB, inB, Bool.and_eq_true, decide_eq_true_eq]
  omega

theorem setCl_swap {zs h8 l : List Int} {m : Nat} (hz : zs.length = m * 8) (hm : 0 < m) (h : h8.length = 8) : setCl (setCl zs 0 h8) m l = setCl (setCl zs m l) 0 h8 := by
  have e1 : (h8 ++ zs.drop 8).length = m * 8 := by simp [h, hz]; omega
  unfold setCl
  simp only [Nat.zero_mul, List.take_zero, List.nil_append, Nat.zero_add, Nat.one_mul]
  rw [List.take_of_length_le (by omega), List.drop_of_length_le (l := h8 ++ zs.drop 8) (by omega), List.take_of_length_le (l := zs) (by omega), List.drop_of_length_le (l := zs) (i := (m + 1) * 8) (by omega), List.append_nil, List.append_nil, List.drop_append_of_le_length (by omega), List.append_assoc]

/-- With the head written first, and then the table behind all. -/
theorem refound_with {xs : List Int} (hh : hasHead xs = true) : (withHead xs { headOf xs with first := manyN xs }).length = manyN xs * 8 ∧ withL (withHead xs { headOf xs with first := manyN xs }) (manyN xs) (lostT xs) = refoundL xs := by
  have hi := hasHead_img hh
  have hm := manyN_le hi
  have hp := whole_pos hh
  have hb : headB { headOf xs with first := (manyN xs : Int) } = true := head_first (hasHead_ok hh) (by omega) (by omega)
  have e8 := headW_ok hb
  have t8 := lostT_ok xs
  have hw : withHead xs { headOf xs with first := (manyN xs : Int) } = setCl (whole xs) 0 (hdW { headOf xs with first := (manyN xs : Int) }) := by
    rw [withHead_yes hb]
    unfold withL withB
    rw [hi, e8, show inB 0 0 (manyN xs) = true from inB_true.2 (by omega)]
    rfl
  rw [hw]
  have hW := whole_length xs
  have hl : (setCl (whole xs) 0 (hdW { headOf xs with first := (manyN xs : Int) })).length = manyN xs * 8 := by
    rw [setCl_length (by rw [hW]; omega) (by omega) rfl, if_neg (by rw [hW]; omega), hW]
  refine ⟨hl, ?_⟩
  have himg : imgB (setCl (whole xs) 0 (hdW { headOf xs with first := (manyN xs : Int) })) = true := by
    refine setCl_img (img_whole hi) ?_ (by rw [hl]; omega)
    intro x hx
    have := (Bool.and_eq_true _ _ ▸ e8).2
    exact (List.all_eq_true.1 this) x hx
  have hmm : manyN (setCl (whole xs) 0 (hdW { headOf xs with first := (manyN xs : Int) })) = manyN xs := by
    show (_ + 7) / 8 = _
    rw [hl]; omega
  have hwh : whole (setCl (whole xs) 0 (hdW { headOf xs with first := (manyN xs : Int) })) = setCl (whole xs) 0 (hdW { headOf xs with first := (manyN xs : Int) }) := by
    unfold whole
    rw [show (setCl (xs ++ List.replicate ((xs.length + 7) / 8 * 8 - xs.length) 0) 0 (hdW { headOf xs with first := (manyN xs : Int) })).length = manyN xs * 8 from hl, show (manyN xs * 8 + 7) / 8 * 8 - manyN xs * 8 = 0 by omega]
    simp
  unfold withL withB refoundL moreL
  rw [himg, t8, hmm, hwh, show inB (manyN xs : Int) 0 (manyN xs) = true from inB_true.2 (by omega), hh]
  by_cases h64 : manyN xs < 64
  · rw [if_pos (by simp; omega), if_pos ⟨rfl, h64⟩, Int.toNat_natCast]
    exact setCl_swap hW hp rfl
  · rw [if_neg (by simp; omega), if_neg (fun h => h64 h.2)]

set_option maxRecDepth 100000 in
set_option maxHeartbeats 8000000 in
theorem implRefound_any (hLs : LostC) : RefoundC := by
  intro A n c xs w h hn hnc
  obtain ⟨i0, hi0, hz0, hz1, hz2⟩ := info_parts info2
  have HL := Lib.hid h.len
  go_enter Try.func15, Try.ntmps15
  go_wp2_with fail
  refine (implHeadIn_any A n c xs w h hn).mono ?_
  rintro e w1 ⟨rfl, b1⟩
  generalize hr : headIn xs = r
  obtain ⟨⟨s, f, r, u, m⟩, is⟩ := r
  have HR := Lib.hid hr
  clear hr
  unfold hdV
  have b2 := b1.alloc b1.size (.cells #[.int .i64 s, .int .i64 f, .int .i64 r, .int .i64 u, .int .i64 m] 34)
  cases is
  · have HN : Hid (refoundL xs = []) := by unfold refoundL; rw [if_neg (fun e => by rw [(headIn_false HR.out).1] at e; cases e.1)]; exact rfl
    go_wp2_with fail
    go_ret
    rw [HN.out]
    exact Ret.nil _ _ b2
  have HY := Lib.hid (headIn_true HR.out)
  have hmm := manyN_le (hasHead_img HY.out.1)
  have HN := Lib.hid (refound_with HY.out.1)
  rw [HY.out.2] at HN
  simp only at HN
  have HMI : Hid (manyI xs = (manyN xs : Int)) := by unfold manyI; rw [hasHead_img HY.out.1]; exact if_pos rfl
  have y2 : HBox (w1.alloc (.cells #[.int .i64 s, .int .i64 f, .int .i64 r, .int .i64 u, .int .i64 m] 34)) w1.heap.size ⟨s, f, r, u, m⟩ := HBox.new w1 ⟨s, f, r, u, m⟩
  have hb1 := b1.size
  clear HR HY
  generalize manyN xs = mn at *
  have e2 : (w1.alloc (.cells #[.int .i64 s, .int .i64 f, .int .i64 r, .int .i64 u, .int .i64 m] 34)).heap.size = w1.heap.size + 1 := by simp
  have HE2 := Lib.hid e2
  go_wp2_with (at_make; refine wpList_make_full _ rfl _ _ 22 rfl (w1.alloc (.cells #[.int .i64 s, .int .i64 f, .int .i64 r, .int .i64 u, .int .i64 m] 34)).heap.size 2 i0 (.int .i64 0) 1 Try.underlying22 hi0 hz0 hz1 .i64 .i64 _ _ 8 rfl rfl rfl rfl (by rw [hz2]; omega) (by simp only [maxLen]; omega) (Nat.le_refl _) ?_; intro w3 hown hg3; rw [made_iv] at hown)
  generalize (w1.alloc (.cells #[.int .i64 s, .int .i64 f, .int .i64 r, .int .i64 u, .int .i64 m] 34)) = w2 at *
  have y2l := y2.lt
  clear e2
  have b3 : Below w2.heap.size w2 w3 := below_grown hg3 (Nat.le_refl _) (fun _ h => by cases h)
  have ot := zeros_ow hown
  have hltt := ow_lt ot
  have b03 := below_more b2 b3 b2.size
  have s3 := b3.size
  have y3 := y2.keep (b3.block _ y2l)
  clear hown hg3
  refine (hLs A n c xs w3 ((h.below b03).more b03.size) hn hnc).mono ?_
  rintro e w4 ⟨Al, nl, cl', rfl, oL, b4⟩
  have s4 := b4.size
  have b04 := below_more b03 b4 b03.size
  have y4 := y3.keep (b4.block _ (by omega))
  have ot4 := ot.below b4 (by omega)
  have hnl := oL.len
  have h8 := lost_len xs
  rw [hnl] at h8
  have HLc : Hid (∀ j, j < nl → ∃ gl, Al = some ⟨gl, 0, none⟩ ∧ w3.heap.size ≤ gl ∧ w4.cell? ⟨gl, j, none⟩ = some (.int .i64 ((lostL xs).getD j 0))) := fun j hj => by
    rcases oL.form with ⟨_, h0, _⟩ | ⟨g, rfl, h1, _⟩
    · omega
    · exact ⟨g, rfl, h1, oL.cell hj⟩
  have HT : Hid (setLost (lostL xs) nl = lostT xs) := by rw [← hnl]; exact setLost_all (by omega)
  have hb2 := b2.size
  clear oL b3 b4 ot y2 y3 b03 hnl b1 b2
  have hsz2 := HE2.out
  rw [hsz2] at ot4
  have hgt3 : w1.heap.size + 1 < w3.heap.size := by rw [← hsz2]; exact hltt
  obtain ⟨gt, hgt⟩ : ∃ gt, gt = w1.heap.size + 1 := ⟨_, rfl⟩
  rw [← hgt]
  rw [← hgt] at ot4 hgt3
  have hg1 : w1.heap.size < gt := by omega
  clear hsz2 HE2 hb2 y2l s3 hltt hgt
  generalize lostL xs = L at *
  go_wp2_with fail
  go_loopw [19] (fun i wr => ∃ k : Nat, k ≤ nl ∧ i = .int .i64 k ∧ Ow wr gt (gt + 1) (some ⟨gt, 0, none⟩) 8 8 (setLost L k) ∧ w4.grownBy wr (some gt)) (fun i _ => nl - (intOf i).toNat)
  case atStart => exact ⟨0, Nat.zero_le _, rfl, ot4, grown_refl _ _⟩
  case round =>
    obtain ⟨k, hk, rfl, ho, hg⟩ := hrel
    have sr := hg.size
    by_cases hlt : k < nl
    · obtain ⟨gl, rfl, hgl, hcl⟩ := HLc.out k hlt
      have e0 : wr.cell? ⟨gl, k, none⟩ = some (.int .i64 (L.getD k 0)) := hg.cell hcl (fun e => by injection e with e; have : gl = gt := e; omega)
      have HS : Hid (setLost L (k + 1) = (setLost L k).set k (entryOf (L.getD k 0) true)) := range_next _ _ _
      have hcc := ho.cell (show k < 8 by omega)
      have hff := ho.free k
      have HSt := Lib.hid (ho.set k (entryOf (L.getD k 0) true))
      clear hcl
      generalize L.getD k 0 = x at *
      go_wp2_with fail
      refine (implEntry_any _ _ _).mono ?_
      rintro e w' ⟨rfl, rfl⟩
      generalize entryOf x true = y at *
      go_wp2_with fail
      go_roundw
      case rel =>
        obtain ⟨h1, h2⟩ := HSt.out
        exact ⟨k + 1, by omega, by go_num, by rw [HS.out]; exact h1, grown_trans hg h2⟩
      case measure => simp [intOf]; omega
    · obtain rfl : k = nl := by omega
      rw [HT.out] at ho
      have yr := y4.keep (hg.block _ (by omega) (fun e => by injection e with e; omega))
      have br := b04.grown hg b04.size (fun q e => by cases e; omega)
      clear hg HT HLc y4 b04 ot4
      go_wp2_with fail
      refine (implClin_any A n c xs wr ((h.below br).more br.size) hn).mono ?_
      rintro e w5 ⟨rfl, b5⟩
      rw [HMI.out]
      have y5 := yr.keep (b5.block _ yr.lt)
      have br5 := below_more br b5 br.size
      have c1 := y5.cell 1
      have f1 := y5.free 1
      have yp := y5.put1 (mn : Int)
      have hgtw := ow_lt ho
      have s5 := b5.size
      have ho5 := ho.below b5 (by omega)
      have of : Ow (w5.setCell ⟨w1.heap.size, 1, none⟩ (.int .i64 (mn : Int))) gt (gt + 1) (some ⟨gt, 0, none⟩) 8 8 (lostT xs) := ho5.keep (fun q h1 _ _ => Below.heap_setCell _ _ _ _ (by show q ≠ w1.heap.size; omega))
      have bf : Below w.heap.size w (w5.setCell ⟨w1.heap.size, 1, none⟩ (.int .i64 (mn : Int))) := br5.setCell hb1 _
      have sf : (w5.setCell ⟨w1.heap.size, 1, none⟩ (.int .i64 (mn : Int))).heap.size = w5.heap.size := by simp [World.setCell]
      clear ho yr br b5 y5 br5 ho5
      go_wp2_with fail
      generalize w5.setCell ⟨w1.heap.size, 1, none⟩ (.int .i64 (mn : Int)) = wf at *
      have p0 : wf.cell? ⟨w1.heap.size, 0, none⟩ = some (.int .i64 s) := yp.cell 0
      have p1 : wf.cell? ⟨w1.heap.size, 1, none⟩ = some (.int .i64 (mn : Int)) := yp.cell 1
      have p2 : wf.cell? ⟨w1.heap.size, 2, none⟩ = some (.int .i64 r) := yp.cell 2
      have p3 : wf.cell? ⟨w1.heap.size, 3, none⟩ = some (.int .i64 u) := yp.cell 3
      have p4 : wf.cell? ⟨w1.heap.size, 4, none⟩ = some (.int .i64 m) := yp.cell 4
      have ypl := yp.lt
      have hrd : Rd wf.drew wf.drew.heap.size A n xs := (h.below bf).more bf.size
      have hrt : Rd wf (gt + 1) (some ⟨gt, 0, none⟩) 8 (lostT xs) := of.rd
      have hgf : gt + 1 ≤ wf.heap.size := by omega
      clear c1 f1 of sf yp
      go_region_held3 (fun w' => w'.cell? ⟨w1.heap.size, 0, none⟩ = some (.int .i64 s) ∧ w'.cell? ⟨w1.heap.size, 1, none⟩ = some (.int .i64 (mn : Int)) ∧ w'.cell? ⟨w1.heap.size, 2, none⟩ = some (.int .i64 r) ∧ w'.cell? ⟨w1.heap.size, 3, none⟩ = some (.int .i64 u) ∧ w'.cell? ⟨w1.heap.size, 4, none⟩ = some (.int .i64 m))
        (first
          | go_keep
          | (go_split_ands; exact boxS_keep b8 (Nat.lt_of_lt_of_le ypl b7.size) (by assumption) (by assumption) (by assumption) (by assumption) (by assumption))
          | (go_split_ands; exact boxS_keep b7 ypl (by assumption) (by assumption) (by assumption) (by assumption) (by assumption)))
        (first
          | (go_at_call 35; refine (implWithHead_any A n c xs ⟨s, (mn : Int), r, u, m⟩ wf.drew hrd hn).mono ?_; rintro e w7 ⟨g7, n7, c7, rfl, o7, b7⟩)
          | (go_at_call 34; refine (implWcl_any g7 n7 c7 _ (mn : Int) (some ⟨gt, 0, none⟩) 8 8 (lostT xs) w7 o7.rd ((hrt.below (w' := w7) ⟨b7.os, b7.tape, b7.output, b7.size, fun q hq => b7.block q (Nat.lt_of_lt_of_le hq hgf)⟩).more (Nat.le_trans hgf b7.size)) (by have := o7.len; rw [HN.out.1] at this; omega) (by omega)).mono ?_; rintro e w8 ⟨G8, n8, c8, rfl, o8, b8⟩))
      all_goals
        replace b7 : Below wf.heap.size wf w7 := ⟨b7.os, b7.tape, b7.output, b7.size, b7.block⟩
        have b07 := below_more bf b7 bf.size
        have b08 := below_more b07 b8 b07.size
        rw [HN.out.2] at o8
        go_wp2_with fail
        go_ret
        exact ⟨G8, n8, c8, rfl, o8.more b07.size (Nat.le_refl _), b08⟩

end Go.Proofs.Ytimbfilbojejiaa
