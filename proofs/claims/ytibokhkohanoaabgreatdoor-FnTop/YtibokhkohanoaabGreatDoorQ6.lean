/- Scans (chapter 13): LostIn, Refound: the model's side. Scans (chapter 13): Refound: the model's side. Repaired (chapter 16): the model's side. The exact law of Repaired, walked, given what the program's own function answers. -/
import Derived.Test.YtibokhkohanoaabGreatDoorH6
import Derived.Test.YtibokhkohanoaabGreatDoorQ5
import Derived.Deep.RegionHeld3
import Derived.Test.YtibokhkohanoaabGreatDoorH7
import Derived.Test.YtibokhkohanoaabGreatDoorZ1
import Derived.Test.YtibokhkohanoaabGreatDoorY5
namespace Go.Proofs.YtibokhkohanoaabGreatDoor
open Go.RowKit
theorem lost_short (b:List Int):∀ k:Nat,(((List.range k).foldl (lostStep b) []).length:Int)≤k
  | 0=>by simp
  | k+1=>by
    have ih:=lost_short b k
    rw[range_next]
    generalize (List.range k).foldl (lostStep b) []=o at *
    unfold lostStep
    split
    . rw[List.length_append];simp;omega
    . omega
theorem lost_eight {b:List Int}(h:0 < (rolesL b).length):∀ k:Nat,((List.range k).foldl (lostStep b) []).length≤8
  | 0=>by simp
  | k+1=>by
    have ih:=lost_eight h k
    rw[range_next]
    generalize (List.range k).foldl (lostStep b) []=o at *
    have hh:=(roles_many h).1
    have hs:=(headB_all (hasHead_ok hh)).1
    unfold lostStep
    split
    . rename_i hc
      rw[headIn_yes hh] at hc
      simp only at hc
      rw[List.length_append]
      simp
      omega
    . exact ih
set_option maxRecDepth 100000 in
set_option maxHeartbeats 4000000 in
theorem specLost_any (A:Option Addr)(n c:Nat)(xs:List Int)(w:World)(h:Rd w w.heap.size A n xs)(hn:n≤2097152) :
    Calls Tryz.prog 114 #[.slice A n c] w (RetS w (lostL xs)):=by
  obtain⟨i0,hi0,hz0,hz1,hz2⟩:=info_parts info2
  have b1:=(Below.refl w.heap.size w).alloc (Nat.le_refl _) (.cells #[] 2)
  have o1:=emptyV 2 1 w w.heap.size (w.heap.size+1) w.heap.size (Nat.le_refl _) rfl (by omega)
  go_enter Tryz.func114,Tryz.ntmps114
  go_wp2_with fail
  refine(specHeadIn_any A n c xs _ ((h.below b1).more b1.size) hn).mono ?_
  rintro e w2 ⟨rfl,b2⟩
  have hs2:=b2.size
  have hsz:(w.alloc (.cells #[] 2)).heap.size=w.heap.size+1:=by simp
  rw[hsz] at hs2
  have o2:=o1.below b2 (by omega)
  have b02:=below_more b1 b2 b1.size
  have HLL:Hid (lostL xs=(List.range ((rolesL xs).length - 1)).foldl (lostStep xs) []):=rfl
  have h64:=rolesL_length (xs:=xs)
  have HST:Hid (∀ (o:List Int) (k:Nat),lostStep xs o k=if secLikeB xs ((k:Int)+1)=true∧(o.length:Int) < ((headIn xs).1.size+7) / 8 then o++[(k:Int)+1] else o):=fun _ _=>rfl
  have HSZ:Hid (0≤(headIn xs).1.size∧(headIn xs).1.size≤64):=by
    cases hh:hasHead xs
    . rw[headIn_no hh];simp[hd0,Hid]
    . rw[headIn_yes hh];have:=(headB_all (hasHead_ok hh)).1;exact⟨by simp only;omega,by simp only;omega⟩
  generalize headIn xs=r at *
  obtain⟨⟨s,f,r,u,m⟩,is⟩:=r
  have hsz2:=HSZ.out
  simp only at hsz2
  unfold hdV
  have y3:HBox (w2.alloc (.cells #[.int .i64 s,.int .i64 f,.int .i64 r,.int .i64 u,.int .i64 m] 31)) w2.heap.size ⟨s,f,r,u,m⟩:=HBox.new w2 ⟨s,f,r,u,m⟩
  have al3:=(Below.refl w2.heap.size w2).alloc (Nat.le_refl _) (.cells #[.int .i64 s,.int .i64 f,.int .i64 r,.int .i64 u,.int .i64 m] 31)
  have o3:=o2.below al3 (by omega)
  have b03:=below_more b02 al3 b02.size
  have hz3:(w2.alloc (.cells #[.int .i64 s,.int .i64 f,.int .i64 r,.int .i64 u,.int .i64 m] 31)).heap.size=w2.heap.size+1:=by simp
  clear hsz b1 b2 o1 o2 al3 b02 HSZ
  go_wp2_with fail
  generalize (w2.alloc (.cells #[.int .i64 s,.int .i64 f,.int .i64 r,.int .i64 u,.int .i64 m] 31))=w3 at *
  go_loopw [3,6] (fun v i wr=>∃ (k g' c':Nat),(k≤(rolesL xs).length - 1)∧i=.int .i64 ((k:Int)+1)∧v=.slice (some ⟨g',0,none⟩) ((List.range k).foldl (lostStep xs) []).length c' ∧
    OwV 2 1 wr w.heap.size wr.heap.size g' ((List.range k).foldl (lostStep xs) []).length c' (iv ((List.range k).foldl (lostStep xs) []))∧HBox wr w2.heap.size ⟨s,f,r,u,m⟩∧Below w.heap.size w wr∧g'≠w2.heap.size) (fun _ i _=>(rolesL xs).length+1 - (intOf i).toNat)
  case atStart=>exact⟨0,w.heap.size,0,Nat.zero_le _,rfl,rfl,o3.more (Nat.le_refl _) (by omega),y3,b03,by omega⟩
  case round =>
    obtain⟨k,g',c',hk,rfl,rfl,hok,hy,hB,hne⟩:=hrel
    have hlo:=lost_short xs k
    have HSk:=Lib.hid (range_next (lostStep xs) [] k)
    rw[HST.out] at HSk
    have sr:=hB.size
    have hyl:=hy.lt
    generalize hfs:(List.range k).foldl (lostStep xs) []=fs at *
    have HFS:=Lib.hid hfs
    clear hfs
    generalize hRL:(rolesL xs).length=RL at *
    go_wp2_with fail
    refine(specRolesIn_any A n c xs wr ((h.below hB).more hB.size) hn).mono ?_
    rintro e w4 ⟨G,ng,cg,rfl,oG,b4⟩
    obtain rfl:RL=ng:=by have:=oG.len;rw[hRL] at this;exact this
    have s4:=b4.size
    have B4:=below_more hB b4 hB.size
    have ok4:=hok.below b4 (Nat.le_refl _)
    have hy4:=hy.keep (b4.block _ hyl)
    clear oG hok hy
    by_cases hlt:k+1 < RL
    . have d1:decide ((k:Int)+1 < (RL:Int))=true:=by simp;omega
      go_wp2_with fail
      refine(specSecLike_any A n c xs ((k:Int)+1) w4 ((h.below B4).more B4.size) hn).mono ?_
      rintro e w5 ⟨rfl,b5⟩
      have s5:=b5.size
      have B5:=below_more B4 b5 B4.size
      have ok5:=ok4.below b5 (by omega)
      have hy5:=hy4.keep (b5.block _ (by omega))
      have q0:w5.cell? ⟨w2.heap.size,0,none⟩=some (.int .i64 s):=hy5.cell 0
      clear ok4 hy4 b4 b5 hB B4
      cases hsl:secLikeB xs ((k:Int)+1)
      . have HE:Hid ((List.range (k+1)).foldl (lostStep xs) []=fs):=by rw[HSk.out,hsl];simp[Hid]
        clear HSk hsl
        go_wp2_with fail
        go_roundw
        case rel=>exact⟨k+1,g',c',by omega,by go_num,by rw[HE.out],by rw[HE.out];exact ok5.more (Nat.le_refl _) (by omega),hy5,B5,hne⟩
        case measure=>simp[intOf];omega
      . by_cases hq:(fs.length:Int) < (s+7) / 8
        . have d2:decide ((fs.length:Int) < (s+7) / 8)=true:=by simpa using hq
          have HE:Hid ((List.range (k+1)).foldl (lostStep xs) []=fs++[(k:Int)+1]):=by rw[HSk.out,hsl,if_pos ⟨rfl,hq⟩];exact rfl
          clear HSk hsl hq
          go_wp2_with (at_builtin;refine wpList_append_lit rfl (.tmp 32) (.tmp 34) 24 rfl 2 1 8 _ i0 Tryz.underlying24 hi0 hz0 hz1 hz2 rfl (by omega) (by omega) w.heap.size wr.heap.size g' fs.length c' _ rfl ok5 #[.int .i64 ((k:Int)+1)] 1 1 rfl rfl (by simp[Value.oneCell']) (by omega) (by omega) ?_;intro g3 cd w6 ho6 hgr hat _)
          go_roundw
          case rel =>
            refine⟨k+1,g3,cd,by omega,by go_num,by rw[HE.out];simp,?_,hy5.keep (hgr.block _ hy5.lt (fun e=>by injection e with e;omega)),B5.grown hgr B5.size (fun q e=>by cases e;exact ok5.low),by have:=hy5.lt;omega⟩
            rw[HE.out,← iv_one,List.length_append]
            exact ho6
          case measure=>simp[intOf];omega
        . have d2:decide ((fs.length:Int) < (s+7) / 8)=false:=by simpa using hq
          have HE:Hid ((List.range (k+1)).foldl (lostStep xs) []=fs):=by rw[HSk.out,if_neg (fun h=>hq h.2)];exact rfl
          clear HSk hsl hq
          go_wp2_with fail
          go_roundw
          case rel=>exact⟨k+1,g',c',by omega,by go_num,by rw[HE.out],by rw[HE.out];exact ok5.more (Nat.le_refl _) (by omega),hy5,B5,hne⟩
          case measure=>simp[intOf];omega
    . have d1:decide ((k:Int)+1 < (RL:Int))=false:=by simp;omega
      have HE:Hid (lostL xs=fs):=by
        rw[HLL.out,show RL - 1=k by omega]
        exact HFS.out
      go_wp2_with fail
      go_ret
      rw[HE.out]
      exact⟨g',_,c',rfl,ok4.cap,(ok4.more (Nat.le_refl _) (by omega)).toI,B4⟩
def setLost (l:List Int)(k:Nat):List Int:=(List.range k).foldl (fun o i=>o.set i (entryOf (l.getD i 0) true)) (List.replicate 8 0)
theorem setLost_get (l:List Int):∀ k:Nat,k≤8→(setLost l k).length=8∧∀ j,j < 8→(setLost l k).getD j 0=if j < k then entryOf (l.getD j 0) true else 0
  | 0,_=>by
    refine⟨by simp[setLost],fun j hj=>?_⟩
    rw[if_neg (by omega)]
    unfold setLost
    exact zeros_get 8 j
  | k+1,hk=>by
    obtain⟨h1,h2⟩:=setLost_get l k (by omega)
    have e:setLost l (k+1)=(setLost l k).set k (entryOf (l.getD k 0) true):=range_next _ _ _
    rw[e]
    refine⟨by rw[List.length_set,h1],fun j hj=>?_⟩
    rw[getD_set,h1,h2 j hj]
    by_cases e2:k=j
    . subst e2;rw[if_pos ⟨rfl,by omega⟩,if_pos (by omega)]
    . rw[if_neg (fun h=>e2 h.1)]
      by_cases h3:j < k
      . rw[if_pos h3,if_pos (by omega)]
      . rw[if_neg h3,if_neg (by omega)]
theorem setLost_all {b:List Int}(h:(lostL b).length≤8):setLost (lostL b) (lostL b).length=lostT b:=by
  obtain⟨h1,h2⟩:=setLost_get (lostL b) _ h
  apply List.ext_getElem?
  intro j
  by_cases hj:j < 8
  · have e1 : (setLost (lostL b) (lostL b).length)[j]? = some ((setLost (lostL b) (lostL b).length).getD j 0) := by
      rw[List.getD_eq_getElem?_getD,List.getElem?_eq_getElem (by omega)];rfl
    rw[e1,h2 j hj]
    unfold lostT
    rw[List.getElem?_map,List.getElem?_range hj]
    rfl
  . rw[List.getElem?_eq_none (by omega),List.getElem?_eq_none (by unfold lostT;simp;omega)]
theorem lost_len (b:List Int):(lostL b).length≤8:=by
  unfold lostL
  by_cases h:0 < (rolesL b).length
  . exact lost_eight h _
  . rw[show (rolesL b).length - 1=0 by omega];simp
theorem lostT_len (b:List Int):(lostT b).length=8:=by unfold lostT;simp
set_option maxRecDepth 100000 in
set_option maxHeartbeats 8000000 in
theorem specRefound_any (A:Option Addr)(n c:Nat)(xs:List Int)(w:World)(h:Rd w w.heap.size A n xs)(hn:n≤2097152) :
    Calls Tryz.prog 74 #[.slice A n c] w (Ret w (refoundL xs)):=by
  obtain⟨i0,hi0,hz0,hz1,hz2⟩:=info_parts info2
  have HL:=Lib.hid h.len
  go_enter Tryz.func74,Tryz.ntmps74
  go_wp2_with fail
  refine(specHeadIn_any _ _ _ xs _ h hn).mono ?_
  rintro e w1 ⟨rfl,b1⟩
  generalize hr:headIn xs=r
  obtain⟨⟨s,f,r,u,m⟩,is⟩:=r
  have HR:=Lib.hid hr
  clear hr
  unfold hdV
  have b2:=b1.alloc b1.size (.cells #[.int .i64 s,.int .i64 f,.int .i64 r,.int .i64 u,.int .i64 m] 31)
  cases is
  . have HN:Hid (refoundL xs=[]):=by unfold refoundL;rw[if_neg (fun e=>by rw[(headIn_false HR.out).1] at e;cases e.1)];exact rfl
    go_wp2_with fail
    go_ret
    rw[HN.out]
    exact Ret.emptyAt _ (by simp) b2
  have HY:=Lib.hid (headIn_true HR.out)
  have hlen:=hasHead_len HY.out.1
  have hn5:n≤512:=by have:=HL.out;omega
  have hall:=headB_all (hasHead_ok HY.out.1)
  rw[HY.out.2] at hall
  simp only at hall
  by_cases h64:¬ manyN xs < 64
  . have HN:Hid (refoundL xs=[]):=by unfold refoundL;rw[if_neg (fun e=>h64 e.2)];exact rfl
    have d64:decide ((64:Int)≤(manyN xs:Int))=true:=by simp;omega
    go_wp2_with fail
    refine(specMany_any _ _ _ xs _ HL.out hn).mono ?_
    rintro e w' ⟨rfl,rfl⟩
    go_wp2_with fail
    go_ret
    rw[HN.out]
    exact Ret.emptyAt _ (by simp) b2
  have hm64:manyN xs < 64:=by omega
  have HN:Hid (refoundL xs=setCl (setCl (whole xs) (manyN xs) (lostT xs)) 0 (hdW ⟨s,manyN xs,r,u,m⟩)):=by
    unfold refoundL moreL
    rw[if_pos ⟨HY.out.1,hm64⟩,HY.out.2]
    exact rfl
  have hp:0 < manyN xs:=by unfold manyN;omega
  have d64:decide ((64:Int)≤(manyN xs:Int))=false:=by simp;omega
  have y2:HBox (w1.alloc (.cells #[.int .i64 s,.int .i64 f,.int .i64 r,.int .i64 u,.int .i64 m] 31)) w1.heap.size ⟨s,f,r,u,m⟩:=HBox.new w1 ⟨s,f,r,u,m⟩
  have hb1:=b1.size
  clear h64 HR HY
  go_wp2_with fail
  generalize (w1.alloc (.cells #[.int .i64 s,.int .i64 f,.int .i64 r,.int .i64 u,.int .i64 m] 31))=w2 at *
  refine(specMany_any _ _ _ xs _ HL.out hn).mono ?_
  rintro e w' ⟨rfl,rfl⟩
  have y2l:=y2.lt
  go_wp2_with (at_make;refine wpList_make_full _ rfl _ _ 24 rfl w2.heap.size 2 i0 (.int .i64 0) 1 Tryz.underlying24 hi0 hz0 hz1 .i64 .i64 _ _ 8 rfl rfl rfl rfl (by rw[hz2];omega) (by simp only[maxLen];omega) (Nat.le_refl _) ?_;intro w3 hown hg3;rw[made_iv] at hown)
  have b3:Below w2.heap.size w2 w3:=below_grown hg3 (Nat.le_refl _) (fun _ h=>by cases h)
  have ot:=zeros_ow hown
  have hltt:=ow_lt ot
  have b03:=below_more b2 b3 b2.size
  have s3:=b3.size
  have y3:=y2.keep (b3.block _ y2l)
  clear hown hg3
  refine(specLost_any A n c xs w3 ((h.below b03).more b03.size) hn).mono ?_
  rintro e w4 ⟨gl,nl,cl',rfl,hcl,oL,b4⟩
  have s4:=b4.size
  have b04:=below_more b03 b4 b03.size
  have y4:=y3.keep (b4.block _ (by omega))
  have ot4:=ot.below b4 (by omega)
  have hnl:=oL.len
  have h8:=lost_len xs
  rw[hnl] at h8
  have hgl:w3.heap.size≤gl:=by
    rcases oL.form with ⟨h0,_⟩ | ⟨x,hx,h1,_⟩
    . cases h0
    . injection hx with hx;injection hx with hx;omega
  have HLc:=Lib.hid (fun (j:Nat) (hj:j < nl)=>oL.cell hj)
  have HT:Hid (setLost (lostL xs) nl=lostT xs):=by rw[← hnl];exact setLost_all (by omega)
  have HB2:=Lib.hid b2
  have hb2:=b2.size
  clear oL b3 b4 ot y2 y3 b03 hnl b1 b2
  generalize w2.heap.size=gt at *
  generalize lostL xs=L at *
  go_wp2_with fail
  go_loopw [7] (fun i wr=>∃ k:Nat,k≤nl∧i=.int .i64 k∧Ow wr gt (gt+1) (some ⟨gt,0,none⟩) 8 8 (setLost L k)∧w4.grownBy wr (some gt)) (fun i _=>nl - (intOf i).toNat)
  case atStart=>exact⟨0,Nat.zero_le _,rfl,ot4,grown_refl _ _⟩
  case round =>
    obtain⟨k,hk,rfl,ho,hg⟩:=hrel
    have sr:=hg.size
    by_cases hlt:k < nl
    . have e0:wr.cell? ⟨gl,k,none⟩=some (.int .i64 (L.getD k 0)):=hg.cell (HLc.out k hlt) (fun e=>by injection e with e;have:gl=gt:=e;omega)
      have HS:Hid (setLost L (k+1)=(setLost L k).set k (entryOf (L.getD k 0) true)):=range_next _ _ _
      have hcc:=ho.cell (show k < 8 by omega)
      have hff:=ho.free k
      have HSt:=Lib.hid (ho.set k (entryOf (L.getD k 0) true))
      generalize L.getD k 0=x at *
      go_wp2_with fail
      refine(specEntry_any _ _ _).mono ?_
      rintro e w' ⟨rfl,rfl⟩
      generalize entryOf x true=y at *
      go_wp2_with fail
      go_roundw
      case rel =>
        obtain⟨h1,h2⟩:=HSt.out
        exact⟨k+1,by omega,by go_num,by rw[HS.out];exact h1,grown_trans hg h2⟩
      case measure=>simp[intOf];omega
    . obtain rfl:k=nl:=by omega
      rw[HT.out] at ho
      have yr:=y4.keep (hg.block _ (by omega) (fun e=>by injection e with e;omega))
      have br:=b04.grown hg b04.size (fun q e=>by cases e;omega)
      have c1:=yr.cell 1
      have f1:=yr.free 1
      have yp:=yr.put1 (manyN xs)
      have hgtw:=ow_lt ho
      have of:Ow (wr.setCell ⟨w1.heap.size,1,none⟩ (.int .i64 (manyN xs))) gt (gt+1) (some ⟨gt,0,none⟩) 8 8 (lostT xs):=ho.keep (fun q h1 _ _=>Below.heap_setCell _ _ _ _ (by show q≠w1.heap.size;omega))
      have bf:Below w.heap.size w (wr.setCell ⟨w1.heap.size,1,none⟩ (.int .i64 (manyN xs))):=br.setCell hb1 _
      have sf:(wr.setCell ⟨w1.heap.size,1,none⟩ (.int .i64 (manyN xs))).heap.size=wr.heap.size:=by simp[World.setCell]
      clear ho yr br HT HLc hg HB2 y4 b04 ot4
      go_wp2_with fail
      refine(specMany_any _ _ _ xs _ HL.out hn).mono ?_
      rintro e w' ⟨rfl,rfl⟩
      go_wp2_with fail
      generalize wr.setCell ⟨w1.heap.size,1,none⟩ (.int .i64 (manyN xs))=wf at *
      have q1:wf.cell? ⟨w1.heap.size,1,none⟩=some (.int .i64 (manyN xs)):=yp.cell 1
      have ypl:=yp.lt
      have hrd:Rd wf.drew wf.drew.heap.size A n xs:=(h.below bf).more bf.size
      have hrt:Rd wf (gt+1) (some ⟨gt,0,none⟩) 8 (lostT xs):=of.rd
      have hgf:gt+1≤wf.heap.size:=by omega
      clear c1 f1 of sf
      go_region_held3 (fun w'=>w'.cell? ⟨w1.heap.size,1,none⟩=some (.int .i64 (manyN xs)))
        (first
          | go_keep
          | (exact(b7.cell (p:=⟨w1.heap.size,1,none⟩) ypl).trans (by assumption))
          | (exact(b8.cell (p:=⟨w1.heap.size,1,none⟩) (Nat.lt_of_lt_of_le ypl b7.size)).trans (by assumption)))
        (first
          | (go_at_call 68;refine(specWhole_any A n c xs wf.drew hrd hn).mono ?_;rintro e w7 ⟨g7,n7,c7,rfl,hc7,o7,b7⟩)
          | (go_at_call 70;refine(specWith_any g7 0 n7 c7 (manyN xs) (whole xs) (lostT xs) (some ⟨gt,0,none⟩) 8 w7 o7.rd ((hrt.below (w':=w7) ⟨b7.os,b7.tape,b7.output,b7.size,fun q hq=>b7.block q (Nat.lt_of_lt_of_le hq hgf)⟩).more (Nat.le_trans hgf b7.size)) hc7 (by have:=o7.len;rw[whole_length] at this;omega) (by have:=o7.len;rw[whole_length] at this;omega) (by have:=o7.len;rw[whole_length] at this;omega)).mono ?_;rintro e w8 ⟨G8,n8,c8,rfl,o8,b8⟩))
      all_goals
        replace b7:Below wf.heap.size wf w7:=⟨b7.os,b7.tape,b7.output,b7.size,b7.block⟩
        have s7:=b7.size
        have s8:=b8.size
        have b07:=below_more bf b7 bf.size
        have b08:=below_more b07 b8 b07.size
        have hy8:=(yp.keep (b7.block _ ypl)).keep (b8.block _ (by omega))
        have p0:w8.cell? ⟨w1.heap.size,0,none⟩=some (.int .i64 s):=hy8.cell 0
        have p1:w8.cell? ⟨w1.heap.size,1,none⟩=some (.int .i64 (manyN xs)):=hy8.cell 1
        have p2:w8.cell? ⟨w1.heap.size,2,none⟩=some (.int .i64 r):=hy8.cell 2
        have p3:w8.cell? ⟨w1.heap.size,3,none⟩=some (.int .i64 u):=hy8.cell 3
        have p4:w8.cell? ⟨w1.heap.size,4,none⟩=some (.int .i64 m):=hy8.cell 4
        have hl8:=o8.len
        rw[setCl_length (by rw[whole_length];omega) (by rw[whole_length];exact Nat.le_refl _) (lostT_len xs),whole_length,if_pos rfl] at hl8
        rcases o8.form with ⟨_,h0,_⟩ | ⟨g8,rfl,_,_,_,hc8⟩
        . omega
        have HL8:=Lib.hid hl8
        have HO8:=Lib.hid o8
        clear hl8 o8 o7 hy8 yp
        go_wp2_with fail
        refine(specHdWords_any ⟨s,manyN xs,r,u,m⟩ w8).mono ?_
        rintro e w9 ⟨g9,n9,c9,rfl,hc9,o9,b9⟩
        obtain rfl:8=n9:=o9.len
        have b09:=below_more b08 b9 b08.size
        have s9:=b9.size
        go_wp2_with fail
        refine(specWith_any g8 0 n8 c8 0 (setCl (whole xs) (manyN xs) (lostT xs)) (hdW ⟨s,manyN xs,r,u,m⟩) (some ⟨g9,0,none⟩) c9 w9 ((HO8.out.below b9 (Nat.le_refl _)).rd.more (by omega)) o9.rd hc8 (by have:=HL8.out;omega) (by have:=HL8.out;omega) (by omega)).mono ?_
        rintro e w10 ⟨G,ng,cg,rfl,oG,b10⟩
        go_wp2_with fail
        go_ret
        rw[HN.out]
        exact⟨G,ng,cg,rfl,oG.more b09.size (Nat.le_refl _),below_more b09 b10 b09.size⟩
theorem first16_len {b:List Int}(hh:hasHead b=true):(first16 b).length=0∨(first16 b).length≤512:=by
  rcases first16_is hh with h | h
  . rw[h];exact .inl rfl
  . exact .inr (hasHead_len h.1).2
set_option maxRecDepth 100000 in
set_option maxHeartbeats 4000000 in
theorem specFirst16_any (A:Option Addr)(n c:Nat)(xs:List Int)(w:World)(h:Rd w w.heap.size A n xs)(hh:hasHead xs=true) :
    Calls Tryz.prog 33 #[.slice A n c] w (Ret w (first16 xs)):=by
  have hmn:=manyN_le (hasHead_img hh)
  obtain⟨hc1,_,hc3⟩:=clr_head hh
  have HF:Hid (first16 xs=if (headOf (clrC xs)).first≠0 then clrC xs else (if refoundL (clrC xs)=[] then [] else clrC (refoundL (clrC xs)))):=rfl
  have HC:=Lib.hid hc1
  have HL:=Lib.hid hc3
  go_enter Tryz.func33,Tryz.ntmps33
  go_wp2_with fail
  refine(specClr_any A n c xs w h hh).mono ?_
  rintro e w1 ⟨G,ng,cg,rfl,oG,b1⟩
  obtain rfl:manyN xs * 8=ng:=by have:=oG.len;rw[HL.out] at this;exact this
  clear hh hc1 hc3
  generalize clrC xs=ys at *
  go_wp2_with fail
  refine(specHeadIn_any _ _ _ ys _ oG.rd (by omega)).mono ?_
  rintro e w2 ⟨rfl,b2⟩
  rw[headIn_yes HC.out]
  have b02:=below_more b1 b2 b1.size
  have oG2:=oG.below b2 (Nat.le_refl _)
  have hb1:=b1.size
  have hb2:=b2.size
  generalize headOf ys=hd at *
  obtain⟨s,f,r,u,m⟩:=hd
  simp only at HF
  unfold hdV
  have b3:=b02.alloc b02.size (.cells #[.int .i64 s,.int .i64 f,.int .i64 r,.int .i64 u,.int .i64 m] 31)
  have al:=(Below.refl w2.heap.size w2).alloc (Nat.le_refl _) (.cells #[.int .i64 s,.int .i64 f,.int .i64 r,.int .i64 u,.int .i64 m] 31)
  have oG3:=oG2.below al (by omega)
  have hb3:=al.size
  clear al oG oG2
  by_cases h0:f=0
  . have d0:(f != 0)=false:=by simpa using h0
    have HF2:Hid (first16 xs=if refoundL ys=[] then [] else clrC (refoundL ys)):=by rw[HF.out,if_neg (by simp[h0])];exact rfl
    clear HF h0
    go_wp2_with fail
    generalize (w2.alloc (.cells #[.int .i64 s,.int .i64 f,.int .i64 r,.int .i64 u,.int .i64 m] 31))=w3 at *
    refine(specRefound_any G (manyN xs * 8) cg ys w3 (oG3.rd.more (by omega)) (by omega)).mono ?_
    rintro e w4 ⟨R,nr,cr,rfl,oR,b4⟩
    have b04:=below_more b3 b4 b3.size
    have HRl:=Lib.hid oR.len
    by_cases hr0:nr=0
    . subst hr0
      have d1:(((0:Nat):Int) == 0)=true:=by simp
      have hnil:refoundL ys=[]:=List.eq_nil_of_length_eq_zero HRl.out
      have HE:Hid (first16 xs=refoundL ys):=by rw[HF2.out,if_pos hnil,hnil];exact rfl
      go_wp2_with fail
      go_ret
      rw[HE.out]
      exact⟨R,0,cr,rfl,oR.more b3.size (Nat.le_refl _),b04⟩
    . have d1:((nr:Int) == 0)=false:=by simp;omega
      have hne:refoundL ys≠[]:=fun e=>by have:=HRl.out;rw[e] at this;simp at this;omega
      have HE:Hid (first16 xs=clrC (refoundL ys)):=by rw[HF2.out,if_neg hne];exact rfl
      have hm64:manyN ys < 64:=by
        by_cases hcc:hasHead ys=true∧manyN ys < 64
        . exact hcc.2
        . exact absurd (by unfold refoundL;rw[if_neg hcc]) hne
      have hrh:=(refound_head HC.out hm64).1
      clear HF2
      go_wp2_with fail
      refine(specClr_any R nr cr (refoundL ys) w4 oR.rd hrh).mono ?_
      rintro e w5 ⟨K,nk,ck,rfl,oK,b5⟩
      go_wp2_with fail
      go_ret
      rw[HE.out]
      exact⟨K,nk,ck,rfl,oK.more b04.size (Nat.le_refl _),below_more b04 b5 b04.size⟩
  . have d0:(f != 0)=true:=by simpa using h0
    have HF2:Hid (first16 xs=ys):=by rw[HF.out,if_pos h0];exact rfl
    clear HF h0
    go_wp2_with fail
    go_ret
    rw[HF2.out]
    exact⟨G,_,cg,rfl,oG3.more (Nat.le_refl _) (by simp;omega),b3⟩
def RetT (w:World)(ys:List Int)(b:Bool)(e:Ending)(w':World):Prop :=
  ∃ A n c,e=.returned (.tuple #[.slice A n c,.bool b])∧Ow w' w.heap.size w'.heap.size A n c ys∧Below w.heap.size w w'
def repairedB (b:List Int):List Int:=if imgB b=true then repairedL b else []
set_option maxRecDepth 100000 in
set_option maxHeartbeats 4000000 in
theorem specRepaired_any (A:Option Addr)(n c:Nat)(xs:List Int)(w:World)(h:Rd w w.heap.size A n xs)(hn:n≤2097152) :
    Calls Tryz.prog 7 #[.slice A n c] w (RetT w (repairedB xs) (imgB xs)):=by
  have HB:Hid (repairedB xs=if imgB xs=true then repairedL xs else []):=rfl
  go_enter Tryz.func7,Tryz.ntmps7
  go_wp2_with fail
  refine(specImg_any A n c xs w.heap.size w h hn).mono ?_
  rintro e w' ⟨rfl,rfl⟩
  cases hi:imgB xs
  . have HE:Hid (repairedB xs=[]):=by rw[HB.out,hi];exact rfl
    have o1:=empty_ow w
    go_wp2_with fail
    go_ret2
    rw[HE.out,hi]
    exact⟨_,0,0,rfl,o1.more (Nat.le_refl _) (by simp),(Below.refl _ _).alloc (Nat.le_refl _) _⟩
  . have HE:Hid (repairedB xs=repairedL xs):=by rw[HB.out,hi];exact rfl
    have HRp:Hid (repairedL xs=if hasHead xs=true then (if countedL (first16 xs)=[] then blankL (headOf xs).size else ownedC (countedL (first16 xs))) else blankL 8):=rfl
    clear HB
    go_wp2_with fail
    refine(specHeadIn_any _ _ _ xs _ h hn).mono ?_
    rintro e w1 ⟨rfl,b1⟩
    generalize hr:headIn xs=r
    obtain⟨⟨s,f,r,u,m⟩,is⟩:=r
    have HR:=Lib.hid hr
    clear hr
    unfold hdV
    have b2:=b1.alloc b1.size (.cells #[.int .i64 s,.int .i64 f,.int .i64 r,.int .i64 u,.int .i64 m] 31)
    have y2:HBox (w1.alloc (.cells #[.int .i64 s,.int .i64 f,.int .i64 r,.int .i64 u,.int .i64 m] 31)) w1.heap.size ⟨s,f,r,u,m⟩:=HBox.new w1 ⟨s,f,r,u,m⟩
    cases is
    . have HN:Hid (repairedL xs=blankL 8):=by rw[HRp.out,(headIn_false HR.out).1];exact rfl
      go_wp2_with fail
      refine(specBlank_any 8 _).mono ?_
      rintro e w3 ⟨G,ng,cg,rfl,oG,b3⟩
      go_wp2_with fail
      go_ret2
      rw[HE.out,HN.out,hi]
      exact⟨G,ng,cg,rfl,oG.more b2.size (Nat.le_refl _),below_more b2 b3 b2.size⟩
    . obtain⟨hh,hd⟩:=headIn_true HR.out
      have HN:Hid (repairedL xs=if countedL (first16 xs)=[] then blankL s else ownedC (countedL (first16 xs))):=by rw[HRp.out,hh,hd];exact rfl
      have HCH:=Lib.hid (counted_head (first16 xs))
      have HHH:=Lib.hid hh
      have hlen:=hasHead_len hh
      clear HRp HR hd hh
      go_wp2_with fail
      generalize (w1.alloc (.cells #[.int .i64 s,.int .i64 f,.int .i64 r,.int .i64 u,.int .i64 m] 31))=w2 at *
      refine(specFirst16_any A n c xs w2 ((h.below b2).more b2.size) HHH.out).mono ?_
      rintro e w3 ⟨F,nf,cf,rfl,oF,b3⟩
      have b03:=below_more b2 b3 b2.size
      have y3:=y2.keep (b3.block _ y2.lt)
      have hnf:nf≤2097152:=by
        have:=oF.len
        rcases first16_len HHH.out with h | h <;> omega
      go_wp2_with fail
      refine(specCounted_any F nf cf (first16 xs) w3 oF.rd hnf).mono ?_
      rintro e w4 ⟨C,nc,cc,rfl,oC,b4⟩
      have b04:=below_more b03 b4 b03.size
      have y4:=y3.keep (b4.block _ y3.lt)
      have HLc:=Lib.hid oC.len
      have q0:w4.cell? ⟨w1.heap.size,0,none⟩=some (.int .i64 s):=y4.cell 0
      clear b3 b4 y2 y3
      generalize countedL (first16 xs)=ys at *
      by_cases h0:nc=0
      . subst h0
        have d0:(((0:Nat):Int) == 0)=true:=by simp
        have HN2:Hid (repairedL xs=blankL s):=by rw[HN.out,if_pos (List.eq_nil_of_length_eq_zero HLc.out)];exact rfl
        clear HN HCH
        go_wp2_with fail
        refine(specBlank_any s w4).mono ?_
        rintro e w5 ⟨G,ng,cg,rfl,oG,b5⟩
        go_wp2_with fail
        go_ret2
        rw[HE.out,HN2.out,hi]
        exact⟨G,ng,cg,rfl,oG.more b04.size (Nat.le_refl _),below_more b04 b5 b04.size⟩
      . have d0:((nc:Int) == 0)=false:=by simp;omega
        have hne:ys≠[]:=fun e=>by have:=HLc.out;rw[e] at this;simp at this;omega
        have HN2:Hid (repairedL xs=ownedC ys):=by rw[HN.out,if_neg hne];exact rfl
        have hhy:hasHead ys=true:=by
          rcases HCH.out with h | h
          . exact absurd h hne
          . exact h.1
        clear HN HCH
        go_wp2_with fail
        refine(specOwned_any C nc cc ys w4 oC.rd hhy).mono ?_
        rintro e w5 ⟨g5,n5,c5,rfl,_,o5,b5⟩
        go_wp2_with fail
        go_ret2
        rw[HE.out,HN2.out,hi]
        exact⟨_,n5,c5,rfl,o5.more b04.size (Nat.le_refl _),below_more b04 b5 b04.size⟩
theorem repairedB_length (xs:List Int):(repairedB xs).length≤512:=by
  unfold repairedB
  split
  . exact imgB_len (hasHead_img (sound_head repaired_sound.1))
  . simp
def RepairedC (W:World):Prop:=∀ (A:Option Addr) (n c:Nat) (xs:List Int) (w:World),Below W.heap.size W w→Rd w w.heap.size A n xs→n≤2097152→n≤c→Calls Tryz.prog 6 #[.slice A n c] w (RetT w (repairedB xs) (imgB xs))
end Go.Proofs.YtibokhkohanoaabGreatDoor
