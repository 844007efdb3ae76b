/- Repaired (chapter 16): the program's side. -/
import Derived.Test.YtibokhkohanoaabGreatDoorRpa
import Derived.Test.YtibokhkohanoaabGreatDoorRpb
import Derived.Test.YtibokhkohanoaabGreatDoorQ7
namespace Go.Proofs.YtibokhkohanoaabGreatDoor
open Go.RowKit
def rpdB (g:List Int→List Int)(b:List Int):List Int:=if imgB b=true then (if hasHead b=true then (if (g b).length=0 then blkL (headOf b).size else g b) else blkL 8) else []
set_option maxRecDepth 100000 in
set_option maxHeartbeats 4000000 in
theorem repaired_any (g:List Int→List Int) (hA:∀ (A:Option Addr) (n c:Nat) (xs:List Int) (w:World),Rd w w.heap.size A n xs→n≤512→n≤c→Calls Tryz.prog 31 #[.slice A n c] w (Ret w (g xs)))
    (A:Option Addr) (n c:Nat) (xs:List Int) (w:World) (h:Rd w w.heap.size A n xs) (hn:n≤2097152) (hnc:n≤c) :
    Calls Tryz.prog 6 #[.slice A n c] w fun e w'=>∃ A' n' c',e=.returned (.tuple #[.slice A' n' c',.bool (imgB xs)])∧Ow w' w.heap.size w'.heap.size A' n' c' (rpdB g xs)∧Below w.heap.size w w':=by
  have HB:Hid (rpdB g xs=if imgB xs=true then (if hasHead xs=true then (if (g xs).length=0 then blkL (headOf xs).size else g xs) else blkL 8) else []):=rfl
  go_enter Tryz.func6,Tryz.ntmps6
  go_wp2_with fail
  refine(implImg_any A n c xs w.heap.size w h hn).mono ?_
  rintro e w' ⟨rfl,rfl⟩
  cases hi:imgB xs
  . have HE:Hid (rpdB g xs=[]):=by rw[HB.out,hi];exact rfl
    go_wp2_with fail
    go_ret2
    rw[HE.out,hi]
    exact⟨none,0,0,rfl,⟨World.ownsRow_nil _ _ _ _,fun g hg=>by cases hg⟩,Below.refl _ _⟩
  . have HE:Hid (rpdB g xs=if hasHead xs=true then (if (g xs).length=0 then blkL (headOf xs).size else g xs) else blkL 8):=by rw[HB.out,hi];exact rfl
    have hl:=imgB_len hi
    have hxl:=h.len
    have hn5:n≤512:=by omega
    clear HB hl hxl
    go_wp2_with fail
    refine(implHeadIn_any A n c xs w h hn).mono ?_
    rintro e w1 ⟨rfl,b1⟩
    generalize hr:headIn xs=r
    obtain⟨⟨s,f,r,u,m⟩,is⟩:=r
    have HR:=Lib.hid hr
    clear hr
    unfold hdV
    have b2:=b1.alloc b1.size (.cells #[.int .i64 s,.int .i64 f,.int .i64 r,.int .i64 u,.int .i64 m] 31)
    have y2:(w1.alloc (.cells #[.int .i64 s,.int .i64 f,.int .i64 r,.int .i64 u,.int .i64 m] 31)).heap[w1.heap.size]?=some (.cells #[.int .i64 s,.int .i64 f,.int .i64 r,.int .i64 u,.int .i64 m] 31 (0,0)):=heap_alloc_new w1 _
    cases is
    . have HN:Hid (rpdB g xs=blkL 8):=by rw[HE.out,(headIn_false HR.out).1];exact rfl
      go_wp2_with fail
      refine(blank_any 8 _).mono ?_
      rintro e w3 ⟨G,ng,cg,rfl,oG,b3⟩
      go_wp2_with fail
      go_ret2
      rw[HN.out,hi]
      exact⟨G,ng,cg,rfl,oG.more b2.size (Nat.le_refl _),below_more b2 b3 b2.size⟩
    . obtain⟨hh,hd⟩:=headIn_true HR.out
      have HN:Hid (rpdB g xs=if (g xs).length=0 then blkL s else g xs):=by rw[HE.out,hh,hd];exact rfl
      clear HE HR hd hh
      go_wp2_with fail
      generalize (w1.alloc (.cells #[.int .i64 s,.int .i64 f,.int .i64 r,.int .i64 u,.int .i64 m] 31))=w2 at *
      refine(hA A n c xs w2 ((h.below b2).more b2.size) hn5 hnc).mono ?_
      rintro e w3 ⟨F,nf,cf,rfl,oF,b3⟩
      have b03:=below_more b2 b3 b2.size
      have q0:w3.cell? ⟨w1.heap.size,0,none⟩=some (.int .i64 s):=cell_of_row w3 w1.heap.size 0 _ _ (0,0) ((b3.block _ (Array.getElem?_eq_some_iff.1 y2).1).trans y2)
      have HL:=Lib.hid oF.len
      clear b3 y2
      by_cases h0:nf=0
      . subst h0
        have d0:(((0:Nat):Int) == 0)=true:=by simp
        have HN2:Hid (rpdB g xs=blkL s):=by rw[HN.out,if_pos HL.out];exact rfl
        clear HN
        go_wp2_with fail
        refine(blank_any s w3).mono ?_
        rintro e w4 ⟨G,ng,cg,rfl,oG,b4⟩
        go_wp2_with fail
        go_ret2
        rw[HN2.out,hi]
        exact⟨G,ng,cg,rfl,oG.more b03.size (Nat.le_refl _),below_more b03 b4 b03.size⟩
      . have d0:((nf:Int) == 0)=false:=by simp;omega
        have HN2:Hid (rpdB g xs=g xs):=by rw[HN.out,if_neg (by rw[HL.out];exact h0)];exact rfl
        clear HN
        go_wp2_with fail
        go_ret2
        rw[HN2.out,hi]
        exact⟨F,nf,cf,rfl,oF.more b2.size (Nat.le_refl _),b03⟩
end Go.Proofs.YtibokhkohanoaabGreatDoor
