/- The steps of repairing (chapter 16): the program's side: values of an interface, each a function under a type of its own. -/
import Derived.Test.YtibokhkohanoaabGreatDoorG8
import Derived.Stop.Asserts
namespace Go.Proofs.YtibokhkohanoaabGreatDoor
open Go.RowKit
def FnC (F:Nat)(f:List Int→List Int):Prop:=∀ (A:Option Addr) (n c:Nat) (xs:List Int) (w:World),Rd w w.heap.size A n xs→n≤2097152→n≤c→Calls Tryz.prog F #[.slice A n c] w (Ret w (f xs))
def stp (f0 f1 f2 f3:List Int→List Int)(k:Nat)(b:List Int):List Int :=
  if k=0 then f0 b else if k=1 then (if firstOf b 0=0 then f0 (f1 b) else b) else if k=2 then f2 b else f3 b
def stps (f0 f1 f2 f3:List Int→List Int)(b:List Int):Nat→List Int
  | 0=>b
  | k+1=>stp f0 f1 f2 f3 k (stps f0 f1 f2 f3 b k)
set_option maxHeartbeats 1000000 in
theorem taken0_any (f:List Int→List Int)(hC:FnC 103 f):∀ (A:Option Addr) (n c:Nat) (xs:List Int) (w:World),Rd w w.heap.size A n xs→n≤2097152→n≤c →
    Calls Tryz.prog 201 #[.func (.func 103) #[] #[],.slice A n c] w (Ret w (f xs)):=by
  intro A n c xs w h hn hnc
  have hc:=Lib.hid (hC A n c xs w h hn hnc)
  go_enter Tryz.func201,Tryz.ntmps201
  go_wp2_with fail
  refine hc.out.mono ?_
  rintro e w1 ⟨G,ng,cg,rfl,oG,b1⟩
  go_wp2_with fail
  go_ret
  exact⟨G,ng,cg,rfl,oG,b1⟩
set_option maxHeartbeats 1000000 in
theorem taken1_any (f0 f1:List Int→List Int)(hC:FnC 103 f0)(hR:FnC 104 f1)(hl:∀ xs,(f1 xs).length≤512):∀ (A:Option Addr) (n c:Nat) (xs:List Int) (w:World),Rd w w.heap.size A n xs→n≤2097152→n≤c →
    Calls Tryz.prog 202 #[.func (.func 104) #[] #[],.slice A n c] w (Ret w (f0 (f1 xs))):=by
  intro A n c xs w h hn hnc
  have hc:=Lib.hid (hR A n c xs w h hn hnc)
  have hl1:=hl xs
  generalize f1 xs=ys at *
  go_enter Tryz.func202,Tryz.ntmps202
  go_wp2_with fail
  refine hc.out.mono ?_
  rintro e w1 ⟨G,ng,cg,rfl,oG,b1⟩
  have hng:ng≤cg:=by rcases oG.form with ⟨_,h0,h1⟩ | ⟨_,_,_,_,_,h1⟩ <;> omega
  have hgl:=oG.len
  have HC:=Lib.hid (hC G ng cg ys w1 oG.rd (by omega) hng)
  clear hgl
  go_wp2_with fail
  refine HC.out.mono ?_
  rintro e w2 ⟨X,nx,cx,rfl,oX,b2⟩
  go_wp2_with fail
  go_ret
  exact⟨X,nx,cx,rfl,oX.more b1.size (Nat.le_refl _),below_more b1 b2 b1.size⟩
set_option maxHeartbeats 1000000 in
theorem taken2_any (f:List Int→List Int)(hC:FnC 105 f):∀ (A:Option Addr) (n c:Nat) (xs:List Int) (w:World),Rd w w.heap.size A n xs→n≤2097152→n≤c →
    Calls Tryz.prog 201 #[.func (.func 105) #[] #[],.slice A n c] w (Ret w (f xs)):=by
  intro A n c xs w h hn hnc
  have hc:=Lib.hid (hC A n c xs w h hn hnc)
  go_enter Tryz.func201,Tryz.ntmps201
  go_wp2_with fail
  refine hc.out.mono ?_
  rintro e w1 ⟨G,ng,cg,rfl,oG,b1⟩
  go_wp2_with fail
  go_ret
  exact⟨G,ng,cg,rfl,oG,b1⟩
set_option maxHeartbeats 1000000 in
theorem taken3_any (f:List Int→List Int)(hC:FnC 106 f):∀ (A:Option Addr) (n c:Nat) (xs:List Int) (w:World),Rd w w.heap.size A n xs→n≤2097152→n≤c →
    Calls Tryz.prog 201 #[.func (.func 106) #[] #[],.slice A n c] w (Ret w (f xs)):=by
  intro A n c xs w h hn hnc
  have hc:=Lib.hid (hC A n c xs w h hn hnc)
  go_enter Tryz.func201,Tryz.ntmps201
  go_wp2_with fail
  refine hc.out.mono ?_
  rintro e w1 ⟨G,ng,cg,rfl,oG,b1⟩
  go_wp2_with fail
  go_ret
  exact⟨G,ng,cg,rfl,oG,b1⟩
def stepVs:Array Value:=#[.iface 104 (.func (.func 103) #[] #[]),.iface 105 (.func (.func 104) #[] #[]),.iface 104 (.func (.func 105) #[] #[]),.iface 104 (.func (.func 106) #[] #[])]
theorem steps_any (w:World):Calls Tryz.prog 65 #[] w fun e w'=>e=.returned (.slice (some ⟨w.heap.size,0,none⟩) 4 4)∧w'=w.alloc (.cells stepVs 81):=by
  go_enter Tryz.func65,Tryz.ntmps65
  go_wp2_with fail
  go_ret
  exact⟨rfl,rfl⟩
theorem assert_change (v:Value)(w:World):(Instr.typeAssert (.iface 104 v) 81 105 true).run Tryz.prog w=.ok (.tuple #[.nilFunc,.bool false]) w:=by kernel_rfl
theorem assert_search (v:Value)(w:World):(Instr.typeAssert (.iface 105 v) 81 105 true).run Tryz.prog w=.ok (.tuple #[v,.bool true]) w:=by kernel_rfl
theorem needed_change (v b:Value)(w:World):Calls Tryz.prog 66 #[.iface 104 v,b] w fun e w'=>e=.returned (.bool true)∧w'=w:=by
  have h:=assert_change v w
  go_enter Tryz.func66,Tryz.ntmps66
  go_wp2_with fail
  go_ret
  exact⟨rfl,rfl⟩
theorem needed_search (hF:∀ (A:Option Addr) (n c:Nat) (xs:List Int) (q:Int) (w:World),Rd w w.heap.size A n xs→n≤2097152→n≤c→Calls Tryz.prog 46 #[.slice A n c,.int .i64 q] w (RetI w (firstOf xs q)))
    (v:Value) (A:Option Addr) (n c:Nat) (xs:List Int) (w:World) (h:Rd w w.heap.size A n xs) (hn:n≤2097152) (hnc:n≤c) :
    Calls Tryz.prog 66 #[.iface 105 v,.slice A n c] w fun e w'=>e=.returned (.bool (firstOf xs 0 == 0))∧Below w.heap.size w w':=by
  have ha:=assert_search v w
  have hf:=Lib.hid (hF A n c xs 0 w h hn hnc)
  go_enter Tryz.func66,Tryz.ntmps66
  go_wp2_with fail
  refine hf.out.mono ?_
  rintro e w1 ⟨rfl,b1⟩
  go_wp2_with fail
  go_ret
  exact⟨rfl,b1⟩
theorem ask_change (v : Value) (w : World) : (nilAhead 188 104 v "loop.example/g00821/impl.taken").run Tryz.prog w = .ok (some false) w := by kernel_rfl
theorem ask_search (v : Value) (w : World) : (nilAhead 188 105 v "loop.example/g00821/impl.taken").run Tryz.prog w = .ok (some false) w := by kernel_rfl
theorem get_change (v : Value) (w : World) : (method 188 104 v "loop.example/g00821/impl.taken").run Tryz.prog w = .ok (201, v) w := by kernel_rfl
theorem get_search (v : Value) (w : World) : (method 188 105 v "loop.example/g00821/impl.taken").run Tryz.prog w = .ok (202, v) w := by kernel_rfl
theorem ow_cap {w:World}{lo hi n c:Nat}{A:Option Addr}{xs:List Int}(h:Ow w lo hi A n c xs):n≤c:=by
  rcases h.form with ⟨_,h0,_⟩ | ⟨_,_,_,_,_,h1⟩ <;> omega
theorem step_cells {w':World}{B:Nat}(h:w'.heap[B]?=some (.cells stepVs 81 (0,0)))(j:Nat):w'.cell? ⟨B,j,none⟩=stepVs[j]?:=cell_of_row w' B j stepVs 81 (0,0) h
set_option maxRecDepth 100000 in
set_option maxHeartbeats 4000000 in
theorem afterSteps_any (f0 f1 f2 f3:List Int→List Int) (h0:FnC 103 f0) (h1:FnC 104 f1) (h2:FnC 105 f2) (h3:FnC 106 f3)
    (hF:∀ (A:Option Addr) (n c:Nat) (xs:List Int) (q:Int) (w:World),Rd w w.heap.size A n xs→n≤2097152→n≤c→Calls Tryz.prog 46 #[.slice A n c,.int .i64 q] w (RetI w (firstOf xs q)))
    (l0:∀ xs,(f0 xs).length≤512) (l1:∀ xs,(f1 xs).length≤512) (l2:∀ xs,(f2 xs).length≤512) (l3:∀ xs,(f3 xs).length≤512)
    (A:Option Addr) (n c:Nat) (xs:List Int) (w:World) (h:Rd w w.heap.size A n xs) (hn:n≤512) (hnc:n≤c) :
    Calls Tryz.prog 31 #[.slice A n c] w (Ret w (stps f0 f1 f2 f3 xs 4)):=by
  go_enter Tryz.func31,Tryz.ntmps31
  go_wp2_with fail
  refine(steps_any w).mono ?_
  rintro e w1 ⟨rfl,rfl⟩
  have b1:=(Below.refl w.heap.size w).alloc (Nat.le_refl _) (.cells stepVs 81)
  have s1:(w.alloc (.cells stepVs 81)).heap[w.heap.size]?=some (.cells stepVs 81 (0,0)):=heap_alloc_new w _
  generalize w.alloc (.cells stepVs 81)=w1 at *
  go_wp2_with fail
  go_loopw [0,7] (fun b i wr=>∃ (k:Nat) (D:Option Addr) (m d:Nat),k≤4∧i=.int .i64 k∧b=.slice D m d∧Rd wr wr.heap.size D m (stps f0 f1 f2 f3 xs k)∧m≤512∧m≤d∧Below w.heap.size w wr∧wr.heap[w.heap.size]?=some (.cells stepVs 81 (0,0))∧(k=0∨Ow wr w.heap.size wr.heap.size D m d (stps f0 f1 f2 f3 xs k)))
    (fun _ i _=>4 - (intOf i).toNat)
  case atStart=>exact⟨0,A,n,c,by omega,rfl,rfl,(h.below b1).more b1.size,hn,hnc,b1,s1,.inl rfl⟩
  case round =>
    obtain⟨k,D,m,d,hk,rfl,rfl,hD,hm,hmd,hb,hs,ho⟩:=hrel
    have sb:=hb.size
    have ls:=(Array.getElem?_eq_some_iff.1 hs).1
    have hc:=step_cells hs
    by_cases hlt:k < 4
    . obtain rfl | rfl | rfl | rfl:k=0∨k=1∨k=2∨k=3:=by omega
      . have c0:wr.cell? ⟨w.heap.size,0,none⟩=some (.iface 104 (.func (.func 103) #[] #[])):=hc 0
        have a1:=ask_change (.func (.func 103) #[] #[])
        have a2:=get_change (.func (.func 103) #[] #[])
        have HT:=Lib.hid (taken0_any f0 h0 D m d _ wr hD (by omega) hmd)
        have HE:Hid (stps f0 f1 f2 f3 xs 1=f0 (stps f0 f1 f2 f3 xs 0)):=rfl
        have hl:=Lib.hid (l0 (stps f0 f1 f2 f3 xs 0))
        clear hc ho hD
        go_wp2_with fail
        refine(needed_change _ _ wr).mono ?_
        rintro e w2 ⟨rfl,rfl⟩
        go_wp2_with fail
        refine HT.out.mono ?_
        rintro e w3 ⟨G,ng,cg,rfl,oG,b3⟩
        rw[← HE.out] at oG hl
        go_wp2_with fail
        go_roundw
        case rel=>exact⟨1,G,ng,cg,by omega,by go_num,rfl,oG.rd,by rw[← oG.len];exact hl.out,ow_cap oG,below_more hb b3 hb.size,(b3.block _ ls).trans hs,.inr (oG.more hb.size (Nat.le_refl _))⟩
        case measure=>simp[intOf]
      . have c0:wr.cell? ⟨w.heap.size,1,none⟩=some (.iface 105 (.func (.func 104) #[] #[])):=hc 1
        have a1:=ask_search (.func (.func 104) #[] #[])
        have a2:=get_search (.func (.func 104) #[] #[])
        have HN:=Lib.hid (needed_search hF (.func (.func 104) #[] #[]) D m d _ wr hD (by omega) hmd)
        by_cases hz:firstOf (stps f0 f1 f2 f3 xs 1) 0=0
        . have hd:(firstOf (stps f0 f1 f2 f3 xs 1) 0 == 0)=true:=by rw[hz];rfl
          have HE:Hid (stps f0 f1 f2 f3 xs 2=f0 (f1 (stps f0 f1 f2 f3 xs 1))):=if_pos hz
          have hl:=Lib.hid (l0 (f1 (stps f0 f1 f2 f3 xs 1)))
          clear hc ho
          go_wp2_with fail
          refine HN.out.mono ?_
          rintro e w2 ⟨rfl,b2⟩
          have HT:=Lib.hid (taken1_any f0 f1 h0 h1 l1 D m d _ w2 ((hD.below b2).more b2.size) (by omega) hmd)
          rw[hd]
          clear hD
          go_wp2_with fail
          refine HT.out.mono ?_
          rintro e w3 ⟨G,ng,cg,rfl,oG,b3⟩
          rw[← HE.out] at oG hl
          have b23:=below_more b2 b3 b2.size
          go_wp2_with fail
          go_roundw
          case rel=>exact⟨2,G,ng,cg,by omega,by go_num,rfl,oG.rd,by rw[← oG.len];exact hl.out,ow_cap oG,below_more hb b23 hb.size,(b23.block _ ls).trans hs,.inr (oG.more (Nat.le_trans hb.size b2.size) (Nat.le_refl _))⟩
          case measure=>simp[intOf]
        . have hd:(firstOf (stps f0 f1 f2 f3 xs 1) 0 == 0)=false:=by simpa using hz
          have HE:Hid (stps f0 f1 f2 f3 xs 2=stps f0 f1 f2 f3 xs 1):=if_neg hz
          have HO:=Lib.hid (ho.resolve_left (by omega))
          have HD:=Lib.hid hD
          clear hc ho hD
          go_wp2_with fail
          refine HN.out.mono ?_
          rintro e w2 ⟨rfl,b2⟩
          rw[hd]
          go_wp2_with fail
          go_roundw
          case rel=>exact⟨2,D,m,d,by omega,by go_num,rfl,by rw[HE.out];exact(HD.out.below b2).more b2.size,hm,hmd,below_more hb b2 hb.size,(b2.block _ ls).trans hs,.inr (by rw[HE.out];exact(HO.out.below b2 (Nat.le_refl _)).more (Nat.le_refl _) b2.size)⟩
          case measure=>simp[intOf]
      . have c0:wr.cell? ⟨w.heap.size,2,none⟩=some (.iface 104 (.func (.func 105) #[] #[])):=hc 2
        have a1:=ask_change (.func (.func 105) #[] #[])
        have a2:=get_change (.func (.func 105) #[] #[])
        have HT:=Lib.hid (taken2_any f2 h2 D m d _ wr hD (by omega) hmd)
        have HE:Hid (stps f0 f1 f2 f3 xs 3=f2 (stps f0 f1 f2 f3 xs 2)):=rfl
        have hl:=Lib.hid (l2 (stps f0 f1 f2 f3 xs 2))
        clear hc ho hD
        go_wp2_with fail
        refine(needed_change _ _ wr).mono ?_
        rintro e w2 ⟨rfl,rfl⟩
        go_wp2_with fail
        refine HT.out.mono ?_
        rintro e w3 ⟨G,ng,cg,rfl,oG,b3⟩
        rw[← HE.out] at oG hl
        go_wp2_with fail
        go_roundw
        case rel=>exact⟨3,G,ng,cg,by omega,by go_num,rfl,oG.rd,by rw[← oG.len];exact hl.out,ow_cap oG,below_more hb b3 hb.size,(b3.block _ ls).trans hs,.inr (oG.more hb.size (Nat.le_refl _))⟩
        case measure=>simp[intOf]
      . have c0:wr.cell? ⟨w.heap.size,3,none⟩=some (.iface 104 (.func (.func 106) #[] #[])):=hc 3
        have a1:=ask_change (.func (.func 106) #[] #[])
        have a2:=get_change (.func (.func 106) #[] #[])
        have HT:=Lib.hid (taken3_any f3 h3 D m d _ wr hD (by omega) hmd)
        have HE:Hid (stps f0 f1 f2 f3 xs 4=f3 (stps f0 f1 f2 f3 xs 3)):=rfl
        have hl:=Lib.hid (l3 (stps f0 f1 f2 f3 xs 3))
        clear hc ho hD
        go_wp2_with fail
        refine(needed_change _ _ wr).mono ?_
        rintro e w2 ⟨rfl,rfl⟩
        go_wp2_with fail
        refine HT.out.mono ?_
        rintro e w3 ⟨G,ng,cg,rfl,oG,b3⟩
        rw[← HE.out] at oG hl
        go_wp2_with fail
        go_roundw
        case rel=>exact⟨4,G,ng,cg,by omega,by go_num,rfl,oG.rd,by rw[← oG.len];exact hl.out,ow_cap oG,below_more hb b3 hb.size,(b3.block _ ls).trans hs,.inr (oG.more hb.size (Nat.le_refl _))⟩
        case measure=>simp[intOf]
    . obtain rfl:k=4:=by omega
      have HO:=Lib.hid (ho.resolve_left (by omega))
      clear hc ho hD
      go_wp2_with fail
      go_ret
      exact⟨D,m,d,rfl,HO.out,hb⟩
end Go.Proofs.YtibokhkohanoaabGreatDoor
