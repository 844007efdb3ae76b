/- Blank (chapter 16): the program's side. -/
import Derived.Test.YtibokhkohanoaabGreatDoorQ7
import Derived.Test.YtibokhkohanoaabGreatDoorG1
namespace Go.Proofs.YtibokhkohanoaabGreatDoor
open Go.RowKit
theorem rdC_lit (w:World)(t:TypeId)(ys:List Int)(m:Nat)(cs:Array Value)(hl:ys.length=m * 8)(hc:cs.toList=iv ys):RdC (w.alloc (.cells cs t)) (w.alloc (.cells cs t)).heap.size (some ⟨w.heap.size,0,none⟩) m ys:=by
  refine⟨hl,fun _=>⟨_,0,rfl,by simp,fun j hj=>?_⟩⟩
  rw[Nat.zero_add,cell_of_row _ w.heap.size j cs t (0,0) (heap_alloc_new w _),← Array.getElem?_toList,hc,iv_get ys j (by omega)]
theorem headB_blank (a:Int):headB ⟨a,1,2,0,0⟩=inB a 1 64:=by
  unfold headB
  have h1:wordB 1=true:=by decide
  have h2:wordB 2=true:=by decide
  have h3:wordB 0=true:=by decide
  have h4:inB 0 0 4=true:=by decide
  simp only[h1,h2,h3,h4,Bool.and_true]
def blkL (a:Int):List Int:=if inB a 1 64=true then hdW ⟨a,1,2,0,0⟩++[0,0,0,0,0,0,0,0,3,0,0,0,0,0,0,0,1,1,1,1,0,0,0,0] else []
set_option maxRecDepth 100000 in
set_option maxHeartbeats 2000000 in
theorem blank_any (a:Int)(w:World):Calls Tryz.prog 30 #[.int .i64 a] w (Ret w (blkL a)):=by
  obtain⟨i0,hi0,hz0,hz1,hz2⟩:=info_parts info2
  have hhb:=headB_blank a
  cases hi:inB a 1 64
  . have HN:Hid (blkL a=[]):=by unfold blkL;rw[hi];exact rfl
    have HW:=Lib.hid (hdWords_no (h:=⟨a,1,2,0,0⟩) (hhb.trans hi))
    clear hhb hi
    go_enter Tryz.func30,Tryz.ntmps30
    go_wp2_with fail
    refine(implHeadWords_any ⟨a,1,2,0,0⟩ w).mono ?_
    rintro e w1 ⟨G,ng,cg,rfl,oG,b1⟩
    rw[HW.out] at oG
    obtain rfl:0=ng:=by have:=oG.len;simpa using this
    have d0:(((0:Nat):Int) == 0)=true:=by simp
    go_wp2_with fail
    go_ret
    rw[HN.out]
    exact Ret.nil _ _ b1
  . have HN:Hid (blkL a=hdW ⟨a,1,2,0,0⟩++[0,0,0,0,0,0,0,0,3,0,0,0,0,0,0,0,1,1,1,1,0,0,0,0]):=by unfold blkL;rw[if_pos hi];exact rfl
    have HW:=Lib.hid (hdWords_yes (h:=⟨a,1,2,0,0⟩) (hhb.trans hi))
    clear hhb hi
    go_enter Tryz.func30,Tryz.ntmps30
    go_wp2_with fail
    refine(implHeadWords_any ⟨a,1,2,0,0⟩ w).mono ?_
    rintro e w1 ⟨G,ng,cg,rfl,oG,b1⟩
    rw[HW.out] at oG
    obtain rfl:8=ng:=by have:=oG.len;simpa [hdW] using this
    have d0:(((8:Nat):Int) == 0)=false:=by simp
    have s1:=b1.size
    have b2:=b1.alloc b1.size (.cells #[.int .i64 0,.int .i64 0,.int .i64 0,.int .i64 0,.int .i64 0,.int .i64 0,.int .i64 0,.int .i64 0,.int .i64 3,.int .i64 0,.int .i64 0,.int .i64 0,.int .i64 0,.int .i64 0,.int .i64 0,.int .i64 0,.int .i64 1,.int .i64 1,.int .i64 1,.int .i64 1,.int .i64 0,.int .i64 0,.int .i64 0,.int .i64 0] 76)
    have rC:=rdC_lit w1 76 [0,0,0,0,0,0,0,0,3,0,0,0,0,0,0,0,1,1,1,1,0,0,0,0] 3 #[.int .i64 0,.int .i64 0,.int .i64 0,.int .i64 0,.int .i64 0,.int .i64 0,.int .i64 0,.int .i64 0,.int .i64 3,.int .i64 0,.int .i64 0,.int .i64 0,.int .i64 0,.int .i64 0,.int .i64 0,.int .i64 0,.int .i64 1,.int .i64 1,.int .i64 1,.int .i64 1,.int .i64 0,.int .i64 0,.int .i64 0,.int .i64 0] rfl rfl
    have oG2:=oG.below ((Below.refl w1.heap.size w1).alloc (Nat.le_refl _) (.cells #[.int .i64 0,.int .i64 0,.int .i64 0,.int .i64 0,.int .i64 0,.int .i64 0,.int .i64 0,.int .i64 0,.int .i64 3,.int .i64 0,.int .i64 0,.int .i64 0,.int .i64 0,.int .i64 0,.int .i64 0,.int .i64 0,.int .i64 1,.int .i64 1,.int .i64 1,.int .i64 1,.int .i64 0,.int .i64 0,.int .i64 0,.int .i64 0] 76)) (Nat.le_refl _)
    have s2:w1.heap.size≤(w1.alloc (.cells #[.int .i64 0,.int .i64 0,.int .i64 0,.int .i64 0,.int .i64 0,.int .i64 0,.int .i64 0,.int .i64 0,.int .i64 3,.int .i64 0,.int .i64 0,.int .i64 0,.int .i64 0,.int .i64 0,.int .i64 0,.int .i64 0,.int .i64 1,.int .i64 1,.int .i64 1,.int .i64 1,.int .i64 0,.int .i64 0,.int .i64 0,.int .i64 0] 76)).heap.size:=by simp
    clear oG
    go_wp2_with fail
    generalize (w1.alloc (.cells #[.int .i64 0,.int .i64 0,.int .i64 0,.int .i64 0,.int .i64 0,.int .i64 0,.int .i64 0,.int .i64 0,.int .i64 3,.int .i64 0,.int .i64 0,.int .i64 0,.int .i64 0,.int .i64 0,.int .i64 0,.int .i64 0,.int .i64 1,.int .i64 1,.int .i64 1,.int .i64 1,.int .i64 0,.int .i64 0,.int .i64 0,.int .i64 0] 76))=w2 at *
    refine(joined_any _ 3 3 _ w2 rC (by omega)).mono ?_
    rintro e w3 ⟨v,rfl,o3,b3⟩
    obtain⟨D,d,rfl,oD⟩:=Ow.of o3
    have b03:=below_more b2 b3 b2.size
    have oG3:=oG2.below b3 s2
    have s3:=b3.size
    go_wp2_with (at_builtin;refine wpList_append_rd rfl (.tmp 10) (.tmp 15) 24 rfl i0 Tryz.underlying24 hi0 hz0 hz1 hz2 w.heap.size w1.heap.size G 8 cg _ rfl oG3 w3.heap.size D 24 d _ rfl oD.rd (by omega) (by omega) ?_;intro E ce w4 o4 g4 _)
    go_ret
    rw[HN.out]
    exact⟨E,32,ce,rfl,o4,below_ow b03 oG3 (Nat.le_refl _) g4⟩
end Go.Proofs.YtibokhkohanoaabGreatDoor
