/- The law FnTop, walked, given what the program's own functions answer. -/
import Derived.Test.YtibokhkohanoaabGreatDoorY3
import Derived.Test.YtibokhkohanoaabGreatDoorQ6
import Derived.Test.YtibokhkohanoaabGreatDoorQL
import Derived.Test.YtibokhkohanoaabGreatDoorY4
import Derived.Test.YtibokhkohanoaabGreatDoorSty
import Derived.Test.YtibokhkohanoaabGreatDoorLawWords
namespace Go.Proofs.YtibokhkohanoaabGreatDoor
open Go.RowKit
theorem claims_first (b:List Int):1 < (claimsC b).length∧((claimsC b).getD 1 cm0).good=goodB b (headOf b).size [⟨1,0,0,0,0,true⟩] ⟨2,0,0,0,(headOf b).first,false⟩:=by
  have h1:c1C b (headOf b) <+: claimsC b:=(c1_prefix b _).trans ((c5_prefix b _).trans (c6_prefix b _))
  obtain⟨t,ht⟩:=h1
  have e:c1C b (headOf b)=[⟨1,0,0,0,0,true⟩,⟨2,0,0,0,(headOf b).first,goodB b (headOf b).size [⟨1,0,0,0,0,true⟩] ⟨2,0,0,0,(headOf b).first,false⟩⟩]:=rfl
  rw[← ht,e]
  exact⟨by simp,rfl⟩
theorem rd_cell0 {w:World}{B g n:Nat}{xs:List Int}(h:Rd w B (some ⟨g,0,none⟩) n xs){j:Nat}(hj:j < n):w.cell? ⟨g,j,none⟩=some (.int .i64 (xs.getD j 0))∧g < B:=by
  obtain⟨b,off,e,hb,hc⟩:=h.2 (by omega)
  injection e with e
  injection e with e1 e2
  subst e1;subst e2
  have:=hc j hj
  rw[Nat.zero_add] at this
  exact⟨this,hb⟩
set_option maxRecDepth 100000 in
set_option maxHeartbeats 3200000 in
theorem law_Top (w:World)(hR:RepairedC w)(hSo:SoundC w)(hN:NamesC)(hC:ContentC)(A:Option Addr)(n c:Nat)(xs:List Int)(hr:Rd8 w w.heap.size A n xs) :
    Calls Tryz.prog 3 #[.slice A n c] w fun e w'=>e=.returned (.bool true)∧Below w.heap.size w w':=by
  by_cases hbig:4096 < n
  . have hb:decide ((4096:Int) < (n:Int))=true:=by simp;omega
    go_enter Tryz.func3,Tryz.ntmps3
    go_wp2_with fail
    refine(big_words _ _ _ _).mono ?_
    rintro e w' ⟨rfl,rfl⟩
    rw[hb]
    go_wp2_with fail
    go_ret
    exact⟨rfl,Below.refl _ _⟩
  have hb:decide ((4096:Int) < (n:Int))=false:=by simp;omega
  go_enter Tryz.func3,Tryz.ntmps3
  go_wp2_with fail
  refine(big_words _ _ _ _).mono ?_
  rintro e w' ⟨rfl,rfl⟩
  rw[hb]
  clear hb
  go_wp2_with fail
  refine(drawRepaired_any A n c xs w hr (by omega)).mono ?_
  rintro e w1 ⟨B,nb,cb,bs,hnb,rfl,rB,b1⟩
  have hxl:=repairedB_length bs
  obtain⟨ks,hks⟩:∃ ks,ks=repairedB bs:=⟨_,rfl⟩
  rw[← hks] at hxl
  have HK:=Lib.hid hks
  clear hks
  have hkk:(ks == ks)=true:=by simp
  have hii:(imgB bs != imgB bs)=false:=by simp
  generalize hib:imgB bs=ib at *
  have HI:=Lib.hid hib
  clear hib
  go_wp2_with fail
  refine(hR B nb cb bs w1 b1 rB (by omega) (by omega)).mono ?_
  rintro e w2 ⟨X,nx,cx,rfl,oX,b2⟩
  rw[← HK.out] at oX
  rw[HI.out]
  have rX:=oX.rd
  have lX:=Lib.hid rX.len
  have hnx:nx≤512:=by have:=lX.out;omega
  have hcx:nx≤cx:=by
    rcases oX.form with ⟨_,h0,h1⟩ | ⟨_,_,_,_,_,h1⟩
    . omega
    . exact h1
  have B2:=below_more b1 b2 b1.size
  replace rB:=(rB.below b2).more b2.size
  clear b1 b2 oX
  go_wp2_with fail
  refine(specRepaired_any B nb cb bs w2 rB (by omega)).mono ?_
  rintro e w3 ⟨Y,ny,cy,rfl,oY,b3⟩
  rw[← HK.out] at oY
  rw[HI.out]
  have rY:=oY.rd
  have B3:=below_more B2 b3 B2.size
  replace rB:=(rB.below b3).more b3.size
  replace rX:=(rX.below b3).more b3.size
  clear b3 B2 oY
  go_wp2_with fail
  refine(like_any X Y nx cx ny cy ks ks w3.heap.size w3 rX rY (by omega)).mono ?_
  rintro e w3' ⟨rfl,d3,rfl⟩
  rw[hkk]
  replace rB:=rB.drewN d3
  replace rX:=rX.drewN d3
  replace B3:=below_drewN B3 d3
  clear rY
  replace rB:Rd (w3.drewN d3) (w3.drewN d3).heap.size B nb bs:=rB
  replace rX:Rd (w3.drewN d3) (w3.drewN d3).heap.size X nx ks:=rX
  cases ib
  · have hz : ((nx : Int) == 0) = true := by
      have:=HK.out
      unfold repairedB at this
      rw[HI.out] at this
      have h2:=lX.out
      rw[this] at h2
      simp at h2
      simp
      omega
    go_wp2_with fail
    refine(specImg_any B nb cb bs _ _ rB (by omega)).mono ?_
    rintro e w4 ⟨rfl,rfl⟩
    rw[HI.out]
    go_wp2_with fail
    go_ret
    exact⟨rfl,B3⟩
  · have HX : Hid (ks = repairedL bs) := by
      have:=HK.out
      unfold repairedB at this
      rw[HI.out,if_pos rfl] at this
      exact this
    have hso:soundB ks=true:=by rw[HX.out];exact repaired_sound.1
    have HSO:=Lib.hid hso
    have HIK:=Lib.hid (hasHead_img (sound_head hso))
    have HRK:Hid (repairedB ks=ks):=by
      unfold repairedB
      rw[if_pos HIK.out]
      exact repaired_same hso
    have HHK:=Lib.hid (headIn_yes (sound_head hso))
    clear hso HK hii
    go_wp2_with fail
    generalize w3.drewN d3=v3 at *
    refine(hR X nx cx ks v3 B3 rX (by omega) hcx).mono ?_
    rintro e w4 ⟨Z,nz,cz,rfl,oZ,b4⟩
    rw[HRK.out] at oZ
    rw[HIK.out]
    have rZ:=oZ.rd
    have lZ:=Lib.hid rZ.len
    have B4:=below_more B3 b4 B3.size
    replace rB:=(rB.below b4).more b4.size
    replace rX:=(rX.below b4).more b4.size
    clear b4 B3 oZ
    go_wp2_with fail
    refine(hSo X nx cx ks w4 B4 rX (by omega) hcx).mono ?_
    rintro e w5 ⟨rfl,b5⟩
    rw[HSO.out]
    have B5:=below_more B4 b5 B4.size
    replace rB:=(rB.below b5).more b5.size
    replace rX:=(rX.below b5).more b5.size
    replace rZ:=(rZ.below b5).more b5.size
    clear b5 B4
    go_wp2_with fail
    refine(specSound_any X nx cx ks w5 rX (by omega)).mono ?_
    rintro e w6 ⟨rfl,b6⟩
    rw[HSO.out]
    have B6:=below_more B5 b6 B5.size
    replace rB:=(rB.below b6).more b6.size
    replace rX:=(rX.below b6).more b6.size
    replace rZ:=(rZ.below b6).more b6.size
    clear b6 B5
    go_wp2_with fail
    refine(like_any Z X nz cz nx cx ks ks w6.heap.size w6 rZ rX (by have:=lZ.out;have:=lX.out;omega)).mono ?_
    rintro e w6' ⟨rfl,d6,rfl⟩
    rw[hkk]
    replace rB:Rd (w6.drewN d6) (w6.drewN d6).heap.size B nb bs:=rB
    replace rX:Rd (w6.drewN d6) (w6.drewN d6).heap.size X nx ks:=rX
    replace B6:=below_drewN B6 d6
    clear rZ lZ
    go_wp2_with fail
    generalize w6.drewN d6=v6 at *
    refine(specSound_any B nb cb bs v6 rB (by omega)).mono ?_
    rintro e w7 ⟨rfl,b7⟩
    have B7:=below_more B6 b7 B6.size
    replace rB:=(rB.below b7).more b7.size
    replace rX:=(rX.below b7).more b7.size
    clear b7 B6
    cases hsb:soundB bs
    case' true =>
      have hkb:(ks == bs)=true:=by rw[HX.out,repaired_same hsb];simp
      clear hsb
      go_wp2_with fail
      refine(like_any X B nx cx nb cb ks bs w7.heap.size w7 rX rB (by omega)).mono ?_
      rintro e w7' ⟨rfl,d7,rfl⟩
      rw[hkb]
      clear hkb
      replace rB:Rd (w7.drewN d7) (w7.drewN d7).heap.size B nb bs:=rB
      replace rX:Rd (w7.drewN d7) (w7.drewN d7).heap.size X nx ks:=rX
      replace B7:=below_drewN B7 d7
      go_wp2_with fail
      generalize w7.drewN d7=v7 at *
    case' false =>
      clear hsb
      obtain⟨v7,rfl⟩:∃ v,v=w7:=⟨_,rfl⟩
      go_wp2_with fail
    all_goals
      refine(specHeadIn_any _ _ _ bs v7 rB (by omega)).mono ?_
      rintro e w8 ⟨rfl,b8⟩
      generalize hrr:headIn bs=r
      obtain⟨⟨s,f,r,u,m⟩,is⟩:=r
      have HR:=Lib.hid hrr
      clear hrr
      unfold hdV
      have B8:=(below_more B7 b8 B7.size).alloc (below_more B7 b8 B7.size).size (.cells #[.int .i64 s,.int .i64 f,.int .i64 r,.int .i64 u,.int .i64 m] 31)
      have a8:=b8.alloc b8.size (.cells #[.int .i64 s,.int .i64 f,.int .i64 r,.int .i64 u,.int .i64 m] 31)
      replace rB:=(rB.below a8).more a8.size
      replace rX:=(rX.below a8).more a8.size
      have hb8:HBox (w8.alloc (.cells #[.int .i64 s,.int .i64 f,.int .i64 r,.int .i64 u,.int .i64 m] 31)) w8.heap.size ⟨s,f,r,u,m⟩:=HBox.new w8 ⟨s,f,r,u,m⟩
      clear b8 a8 B7
      cases is
      · have HZ : Hid ((ks == blankL 8) = true) := by
          show _=_
          rw[HX.out]
          unfold repairedL
          rw[(headIn_false HR.out).1]
          simp
        clear hb8
        go_wp2_with fail
        generalize (w8.alloc (.cells #[.int .i64 s,.int .i64 f,.int .i64 r,.int .i64 u,.int .i64 m] 31))=v8 at *
        refine(specBlank_any 8 v8).mono ?_
        rintro e w9 ⟨Q,nq,cq,rfl,oQ,b9⟩
        have B9:=below_more B8 b9 B8.size
        replace rX:=(rX.below b9).more b9.size
        go_wp2_with fail
        refine(like_any X Q nx cx nq cq ks (blankL 8) w9.heap.size w9 rX oQ.rd (by omega)).mono ?_
        rintro e w9' ⟨rfl,d9,rfl⟩
        rw[HZ.out]
        go_wp2_with fail
        go_ret
        exact⟨rfl,below_drewN B9 d9⟩
      . have hh:=(headIn_true HR.out).1
        have hho:=(headIn_true HR.out).2
        have HRR:=Lib.hid (repaired_reads hh)
        have HSZ:Hid ((headOf ks).size=s):=by
          rw[HX.out]
          have:=(repaired_sound (b:=bs)).2 hh
          rw[hho] at this
          exact this
        have HF:=Lib.hid (claims_first bs)
        have HCL:Hid (claimsL bs=claimsC bs):=by unfold claimsL;rw[hh];exact rfl
        have hs64:=headB_all (hasHead_ok hh)
        rw[hho] at hs64 HRR HF
        have hs0:=hs64.1
        have hs1:=hs64.2.1
        simp only at hs0 hs1 HRR HF
        obtain⟨S,rfl⟩:=Int.eq_ofNat_of_zero_le (show 0≤s by omega)
        have HML:Hid ((leftL bs).length≤20001):=by
          rw[← leftK_all]
          have h1:=leftK_length (claimsC bs)
          have h2:=claims_length bs
          show _≤_
          omega
        have HH:=Lib.hid hh
        clear hh hho hs64 HR
        go_wp2_with fail
        generalize (w8.alloc (.cells #[.int .i64 (S:Int),.int .i64 f,.int .i64 r,.int .i64 u,.int .i64 m] 31))=v8 at *
        generalize w8.heap.size=p8 at *
        refine(specHeadIn_any _ _ _ ks v8 rX (by omega)).mono ?_
        rintro e w9 ⟨rfl,b9⟩
        rw[HHK.out]
        generalize headOf ks=hk at *
        obtain⟨s2,f2,r2,u2,m2⟩:=hk
        obtain rfl:s2=(S:Int):=HSZ.out
        clear HSZ HHK
        unfold hdV
        have a9:=b9.alloc b9.size (.cells #[.int .i64 (S:Int),.int .i64 f2,.int .i64 r2,.int .i64 u2,.int .i64 m2] 31)
        have B9:=below_more B8 a9 B8.size
        have hb9:=hb8.keep (a9.block _ hb8.lt)
        replace rB:=(rB.below a9).more a9.size
        replace rX:=(rX.below a9).more a9.size
        have hy9:HBox (w9.alloc (.cells #[.int .i64 (S:Int),.int .i64 f2,.int .i64 r2,.int .i64 u2,.int .i64 m2] 31)) w9.heap.size ⟨S,f2,r2,u2,m2⟩:=HBox.new w9 ⟨S,f2,r2,u2,m2⟩
        clear b9 a9 B8 hb8
        go_wp2_with fail
        generalize (w9.alloc (.cells #[.int .i64 (S:Int),.int .i64 f2,.int .i64 r2,.int .i64 u2,.int .i64 m2] 31))=v9 at *
        generalize w9.heap.size=p9 at *
        refine(specClaimsIn_any B nb cb bs v9 rB (by omega)).mono ?_
        rintro e w10 ⟨G,cg,rfl,oG,b10⟩
        rw[HCL.out] at oG ⊢
        have B10:=below_more B9 b10 B9.size
        have hb10:=hb9.keep (b10.block _ hb9.lt)
        have hy10:=hy9.keep (b10.block _ hy9.lt)
        replace rB:=(rB.below b10).more b10.size
        replace rX:=(rX.below b10).more b10.size
        have hll:=HF.out.1
        have hce:=cm_cells oG.toR.rd hll
        have HGD:=Lib.hid HF.out.2
        clear b10 B9 hb9 hy9 oG HF HCL
        generalize (claimsC bs).getD 1 cm0=x at *
        generalize (claimsC bs).length=ll at *
        obtain⟨xk,xf,xs',xp,xt,xg⟩:=x
        have e0:w10.cell? ⟨G,6,none⟩=some (.int .i64 xk):=hce 0 (by omega)
        have e1:w10.cell? ⟨G,7,none⟩=some (.int .i64 xf):=hce 1 (by omega)
        have e2:w10.cell? ⟨G,8,none⟩=some (.int .i64 xs'):=hce 2 (by omega)
        have e3:w10.cell? ⟨G,9,none⟩=some (.int .i64 xp):=hce 3 (by omega)
        have e4:w10.cell? ⟨G,10,none⟩=some (.int .i64 xt):=hce 4 (by omega)
        have e5:w10.cell? ⟨G,11,none⟩=some (.bool xg):=hce 5 (by omega)
        clear hce
        have z8:w10.cell? ⟨p8,0,none⟩=some (.int .i64 (S:Int)):=hb10.cell 0
        have z9:w10.cell? ⟨p9,0,none⟩=some (.int .i64 (S:Int)):=hy10.cell 0
        have l8:=hb10.lt
        have l9:=hy10.lt
        have n1:(1:Int) < (ll:Int):=by omega
        have HB:=Lib.hid hb10
        have HY:=Lib.hid hy10
        clear hb10 hy10
        go_wp2_with fail
        have a11:=(Below.refl w10.heap.size w10).alloc (Nat.le_refl _) (.cells #[.int .i64 xk,.int .i64 xf,.int .i64 xs',.int .i64 xp,.int .i64 xt,.bool xg] 36)
        have B11:=below_more B10 a11 B10.size
        have s11:(w10.alloc (.cells #[.int .i64 xk,.int .i64 xf,.int .i64 xs',.int .i64 xp,.int .i64 xt,.bool xg] 36)).heap.size=w10.heap.size+1:=by simp
        have HW:Hid ((w10.alloc (.cells #[.int .i64 xk,.int .i64 xf,.int .i64 xs',.int .i64 xp,.int .i64 xt,.bool xg] 36)).cell? ⟨w10.heap.size,5,none⟩=some (.bool xg)):=by show _=_;rw[World.cell?_alloc_new];rfl
        replace rB:=(rB.below a11).more a11.size
        replace rX:=(rX.below a11).more a11.size
        replace HB:=Lib.hid (HB.out.keep (a11.block _ l8))
        replace HY:=Lib.hid (HY.out.keep (a11.block _ l9))
        have lw:w10.heap.size < (w10.alloc (.cells #[.int .i64 xk,.int .i64 xf,.int .i64 xs',.int .i64 xp,.int .i64 xt,.bool xg] 36)).heap.size:=by omega
        clear a11 B10 z8 z9 l8 l9 e0 e1 e2 e3 e4 e5 s11
        generalize (w10.alloc (.cells #[.int .i64 xk,.int .i64 xf,.int .i64 xs',.int .i64 xp,.int .i64 xt,.bool xg] 36))=v11 at *
        generalize w10.heap.size=pw at *
        refine(specMild_any B nb cb bs v11 rB (by omega)).mono ?_
        rintro e w12 ⟨rfl,b12⟩
        have B12:=below_more B11 b12 B11.size
        replace HB:=Lib.hid (HB.out.keep (b12.block _ HB.out.lt))
        replace HW:Hid (w12.cell? ⟨pw,5,none⟩=some (.bool xg)):=(b12.cell (p:=⟨pw,5,none⟩) lw).trans HW.out
        replace rB:=(rB.below b12).more b12.size
        replace rX:=(rX.below b12).more b12.size
        have lw12:pw < w12.heap.size:=by have:=b12.size;omega
        clear b12 B11 lw HY
        cases hmi:mildB bs
        case' true =>
          have hnn:namesL ks=namesL bs:=by rw[HX.out];exact HRR.out.1 hmi
          clear hmi
          have hln:=names_length bs
          obtain⟨ns,hns⟩:∃ ns,ns=namesL bs:=⟨_,rfl⟩
          rw[← hns] at hnn hln
          have HNS:=Lib.hid hns
          have HNN:=Lib.hid hnn
          have hvv:(ns == ns)=true:=by simp
          clear hns hnn
          go_wp2_with fail
          refine(hN X nx cx ks w12 rX (by omega) hcx).mono ?_
          rintro e x1 ⟨L1,n1',c1,rfl,o1,t1⟩
          rw[HNN.out] at o1
          obtain⟨M,hM⟩:∃ M,M=ns.length:=⟨_,rfl⟩
          obtain rfl:M=n1':=by rw[hM];exact o1.len
          have B13:=below_more B12 t1 B12.size
          replace HB:=Lib.hid (HB.out.keep (t1.block _ HB.out.lt))
          replace HW:Hid (x1.cell? ⟨pw,5,none⟩=some (.bool xg)):=(t1.cell (p:=⟨pw,5,none⟩) lw12).trans HW.out
          replace rB:=(rB.below t1).more t1.size
          replace rX:=(rX.below t1).more t1.size
          replace lw12:pw < x1.heap.size:=by have:=t1.size;omega
          have HMM:=Lib.hid hM
          clear t1 o1 B12 hM
          go_wp2_with fail
          refine(specNames_any B nb cb bs x1 rB (by omega)).mono ?_
          rintro e x2 ⟨L2,n2',c2,rfl,o2,t2⟩
          rw[← HNS.out] at o2
          obtain rfl:M=n2':=by rw[HMM.out];exact o2.len
          have B14:=below_more B13 t2 B13.size
          replace HB:=Lib.hid (HB.out.keep (t2.block _ HB.out.lt))
          replace HW:Hid (x2.cell? ⟨pw,5,none⟩=some (.bool xg)):=(t2.cell (p:=⟨pw,5,none⟩) lw12).trans HW.out
          replace rB:=(rB.below t2).more t2.size
          replace rX:=(rX.below t2).more t2.size
          replace lw12:pw < x2.heap.size:=by have:=t2.size;omega
          clear t2 o2 B13
          have hMM:((M:Int) != (M:Int))=false:=by simp
          go_wp2_with fail
          refine(hN X nx cx ks x2 rX (by omega) hcx).mono ?_
          rintro e x3 ⟨L3,n3',c3,rfl,o3,t3⟩
          rw[HNN.out] at o3
          have B15:=below_more B14 t3 B14.size
          replace HB:=Lib.hid (HB.out.keep (t3.block _ HB.out.lt))
          replace HW:Hid (x3.cell? ⟨pw,5,none⟩=some (.bool xg)):=(t3.cell (p:=⟨pw,5,none⟩) lw12).trans HW.out
          replace rB:=(rB.below t3).more t3.size
          replace rX:=(rX.below t3).more t3.size
          replace lw12:pw < x3.heap.size:=by have:=t3.size;omega
          have r3:=o3.rd
          clear t3 o3 B14
          go_wp2_with fail
          refine(specNames_any B nb cb bs x3 rB (by omega)).mono ?_
          rintro e x4 ⟨L4,n4',c4,rfl,o4,t4⟩
          rw[← HNS.out] at o4
          have B16:=below_more B15 t4 B15.size
          replace HB:=Lib.hid (HB.out.keep (t4.block _ HB.out.lt))
          replace HW:Hid (x4.cell? ⟨pw,5,none⟩=some (.bool xg)):=(t4.cell (p:=⟨pw,5,none⟩) lw12).trans HW.out
          replace rB:=(rB.below t4).more t4.size
          replace rX:=(rX.below t4).more t4.size
          replace r3:=(r3.below t4).more t4.size
          replace lw12:pw < x4.heap.size:=by have:=t4.size;omega
          clear t4 B15
          go_wp2_with fail
          refine(like_any L3 L4 n3' c3 n4' c4 ns ns x4.heap.size x4 r3 o4.rd (by have:=r3.len;omega)).mono ?_
          rintro e x4' ⟨rfl,d4,rfl⟩
          rw[hvv]
          replace rB:Rd (x4.drewN d4) (x4.drewN d4).heap.size B nb bs:=rB
          replace rX:Rd (x4.drewN d4) (x4.drewN d4).heap.size X nx ks:=rX
          replace HB:Hid (HBox (x4.drewN d4) p8 ⟨S,f,r,u,m⟩):=HB.out
          replace HW:Hid ((x4.drewN d4).cell? ⟨pw,5,none⟩=some (.bool xg)):=HW.out
          replace lw12:pw < (x4.drewN d4).heap.size:=lw12
          have B17:=below_drewN B16 d4
          have zw:=HW.out
          clear B16 r3 o4 hln hvv hMM HMM HNN HNS
          cases xg
          . go_wp2_with fail
            go_ret
            exact⟨rfl,B17⟩
          go_wp2_with fail
          generalize x4.drewN d4=v17 at *
        case' false =>
          clear hmi
          obtain⟨v17,rfl⟩:∃ v,v=w12:=⟨_,rfl⟩
          have B17:=B12
          have zw:=HW.out
          clear B12
          cases xg
          . go_wp2_with fail
            go_ret
            exact⟨rfl,B17⟩
          go_wp2_with fail
        all_goals
          have HRD:Hid (∀ i:Nat,i < (leftL bs).length→i≤(namesL ks).length→∀ g:Nat,g < S→(contentL ks i g).length=8∧(contentL ks i g=contentL bs ((leftL bs).getD i 0) g∨(contentL ks i g=List.replicate 8 0∧mildB bs=false))):=by
            intro i hi hin g hg
            rw[HX.out] at hin ⊢
            exact HRR.out.2 HGD.out.symm i hi hin g (by omega)
          have hl0:0 < (leftL bs).length:=by unfold leftL;simp
          clear HRR HGD zw HW lw12
          refine(stay_any B nb cb bs v17 rB (by omega) HH.out).mono ?_
          rintro e w18 ⟨L,nl,cl,rfl,oL,b18⟩
          have rL:=oL.rd
          have lL:=Lib.hid rL.len
          have hnl:nl≤20001:=by have:=lL.out;have:=HML.out;omega
          obtain⟨g0,rfl⟩:∃ g0,L=some ⟨g0,0,none⟩:=by
            rcases oL.form with ⟨_,h0,_⟩ | ⟨g,e,_⟩
            . have:=lL.out;omega
            . exact⟨g,e⟩
          have B18:=below_more B17 b18 B17.size
          replace HB:=Lib.hid (HB.out.keep (b18.block _ HB.out.lt))
          replace rB:=(rB.below b18).more b18.size
          replace rX:=(rX.below b18).more b18.size
          clear b18 B17 oL hl0 HML
          generalize leftL bs=ls at *
          go_wp2_with fail
          go_loopw [16] (fun v wr=>∃ k:Nat,k≤nl∧v=.int .i64 k∧Below w18.heap.size w18 wr) (fun v _=>nl - (intOf v).toNat)
          case atStart=>exact⟨0,Nat.zero_le _,rfl,Below.refl _ _⟩
          case round =>
            obtain⟨k,hk,rfl,bq⟩:=hrel
            obtain⟨vq,hvq⟩:∃ vq,vq=wr:=⟨_,rfl⟩
            rw[← hvq] at bq ⊢
            clear hvq
            by_cases hkn:k < nl
            . have HCK:=HRD.out k (by have:=lL.out;omega)
              obtain⟨M,hM⟩:∃ M,M=(namesL ks).length:=⟨_,rfl⟩
              rw[← hM] at HCK
              have HM:=Lib.hid hM
              have hml:=names_length ks
              rw[← hM] at hml
              have HCH:=Lib.hid HCK
              clear hM HCK
              have hdk:decide (k < nl)=true:=by simp;omega
              go_wp2_with fail
              refine(specNames_any X nx cx ks vq ((rX.below bq).more bq.size) (by omega)).mono ?_
              rintro e v8 ⟨L2,nl2,cl2,rfl,oL2,b8⟩
              obtain rfl:M=nl2:=by rw[HM.out];exact oL2.len
              have c8:=below_more bq b8 bq.size
              clear oL2 b8 bq HM
              by_cases hkM:k≤M
              . have HC2:=Lib.hid (HCH.out hkM)
                clear HCH
                go_wp2_with fail
                go_loopw [17] (fun v ws=>∃ j:Nat,j≤S∧v=.int .i64 j∧Below w18.heap.size w18 ws) (fun v _=>S - (intOf v).toNat)
                case atStart=>exact⟨0,by omega,rfl,c8⟩
                case round =>
                  obtain⟨j,hj,rfl,bk⟩:=hrel
                  have hxk:=HB.out.keep (bk.block _ HB.out.lt)
                  have z0:wr.cell? ⟨p8,0,none⟩=some (.int .i64 (S:Int)):=hxk.cell 0
                  clear hxk
                  by_cases hjS:j < S
                  . obtain⟨h8,hor⟩:=HC2.out j hjS
                    go_wp2_with fail
                    refine(hC X nx cx ks k j wr ((rX.below bk).more bk.size) (by omega) hcx).mono ?_
                    rintro e u1 ⟨T,nt,ct,rfl,oT,t1⟩
                    have c1:=below_more bk t1 bk.size
                    have rT:=oT.rd
                    have hn8:=oT.len
                    rw[h8] at hn8
                    subst hn8
                    have zL:=(rd_cell0 (rL.below c1) hkn).1
                    clear oT t1 bk z0
                    generalize ls.getD k 0=lv at *
                    generalize contentL ks k j=ts at *
                    go_wp2_with fail
                    refine(specContent_any B nb cb bs lv j u1 ((rB.below c1).more c1.size) (by omega)).mono ?_
                    rintro e u2 ⟨U,nu,cu,rfl,oU,t2⟩
                    have c2:=below_more c1 t2 c1.size
                    replace rT:=(rT.below t2).more t2.size
                    have rU:=oU.rd
                    clear oU t2 c1 zL
                    generalize contentL bs lv j=us at *
                    go_wp2_with fail
                    refine(like_any T U 8 ct nu cu ts us u2.heap.size u2 rT rU (by omega)).mono ?_
                    rintro e u2' ⟨rfl,d2,rfl⟩
                    replace c2:=below_drewN c2 d2
                    replace rT:Rd (u2.drewN d2) (u2.drewN d2).heap.size T 8 ts:=rT
                    by_cases hv:ts=us
                    . have hv1:(ts == us)=true:=by simpa using hv
                      rw[hv1]
                      clear hv hor hv1
                      go_wp2_with fail
                      go_roundw
                      case rel=>exact⟨j+1,by omega,by go_num,c2⟩
                      case measure=>simp[intOf];omega
                    . have hv1:(ts == us)=false:=by simpa using hv
                      rw[hv1]
                      obtain⟨rfl,hmi⟩:ts=List.replicate 8 0∧mildB bs=false:=by
                        rcases hor with h | h
                        . exact absurd h hv
                        . exact h
                      have HMI:=Lib.hid hmi
                      clear hv hor hv1 hmi
                      go_wp2_with fail
                      generalize u2.drewN d2=v2 at *
                      refine(zeros_any T 8 ct v2.heap.size 8 v2 rT (by omega)).mono ?_
                      rintro e v2' ⟨rfl,rfl⟩
                      go_wp2_with fail
                      refine(specMild_any B nb cb bs v2 ((rB.below c2).more c2.size) (by omega)).mono ?_
                      rintro e v3' ⟨rfl,t3⟩
                      rw[HMI.out]
                      have c3:=below_more c2 t3 c2.size
                      go_wp2_with fail
                      go_roundw
                      case rel=>exact⟨j+1,by omega,by go_num,c3⟩
                      case measure=>simp[intOf];omega
                  . go_wp2_with fail
                    go_roundw
                    case rel=>exact⟨k+1,by omega,by go_num,bk⟩
                    case measure=>simp[intOf];omega
              . have hdM:decide (k≤M)=false:=by simp;omega
                go_wp2_with fail
                go_ret
                exact⟨rfl,below_more B18 c8 B18.size⟩
            . have hdk:decide (k < nl)=false:=by simp;omega
              go_wp2_with fail
              go_ret
              exact⟨rfl,below_more B18 bq B18.size⟩
end Go.Proofs.YtibokhkohanoaabGreatDoor
