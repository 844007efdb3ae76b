/- Cleared: the table of shots. Cleared: the head as it is then. Cleared (chapter 12): the model's Go function computes it. -/
import Derived.Test.YtibokhkohanoaabGreatDoorH2
namespace Go.Proofs.YtibokhkohanoaabGreatDoor
open Go.RowKit
theorem set_twice (z:List Int)(p:Nat)(a b:Int):(z.set p a).set p b=z.set p b:=List.set_set a
set_option maxRecDepth 100000 in
set_option maxHeartbeats 4000000 in
theorem specKeep_any (g n c lo hi nk ck:Nat)(K:Option Addr)(zs kw:List Int)(h:Hd)(w:World)(ho:Ow w lo hi (some ⟨g,0,none⟩) n c zs)(hk:Rd w lo K nk kw)(hlo:lo≤g)(hs0:0≤h.shots)(hm0:0≤h.many)(hm4:h.many≤4)(hin:h.shots.toNat * 8+8≤n)(hn:n≤1000)(hnk:nk≤100000) :
    Calls Tryz.prog 113 #[.slice (some ⟨g,0,none⟩) n c,hdV h,.slice K nk ck] w fun e w'=>e=.returned (.slice (some ⟨g,0,none⟩) n c)∧Ow w' lo hi (some ⟨g,0,none⟩) n c (keepL h kw zs)∧w.grownBy w' (some g):=by
  have hgl:=ow_lt ho
  have HK:Hid (keepL h kw zs=(List.range (2 * h.many).toNat).foldl (keepStep h kw) zs):=rfl
  have HSt:Hid (∀ (o:List Int) (i:Nat),keepStep h kw o i=o.set (h.shots.toNat * 8+i) (kw.getD i 0)):=fun _ _=>rfl
  have hkl:=Lib.hid hk.len
  have HR:=Lib.hid hk
  have hlen:zs.length=n:=ho.len
  have HLn:Hid (∀ k,k≤8→((List.range k).foldl (keepStep h kw) zs).length=n):=fun k hk8=>by
    rw[(keep_get h kw k zs 0 (by omega)).2];exact hlen
  generalize hF:keepStep h kw=F at *
  clear hF hk hlen
  obtain⟨s,f,r,u,m⟩:=h
  simp only at *
  obtain⟨μ,rfl⟩:=Int.eq_ofNat_of_zero_le hm0
  obtain⟨υ,rfl⟩:=Int.eq_ofNat_of_zero_le hs0
  have e2:((2:Int) * (μ:Int)).toNat=2 * μ:=by omega
  rw[e2] at HK
  rw[Int.toNat_natCast] at HSt hin
  clear hm0 hs0 e2
  unfold hdV
  have hz:(w.alloc (.cells #[.int .i64 s,.int .i64 f,.int .i64 r,.int .i64 υ,.int .i64 μ] 31)).heap.size=w.heap.size+1:=by simp
  have HBX:Hid ((w.alloc (.cells #[.int .i64 s,.int .i64 f,.int .i64 r,.int .i64 υ,.int .i64 μ] 31)).heap[w.heap.size]?=some (.cells #[.int .i64 s,.int .i64 f,.int .i64 r,.int .i64 υ,.int .i64 μ] 31 (0,0))):=heap_alloc_new w _
  have hal:=World.grownBy_alloc w (.cells #[.int .i64 s,.int .i64 f,.int .i64 r,.int .i64 υ,.int .i64 μ] 31) (some g)
  have ho1:=ho.keep (w':=w.alloc (.cells #[.int .i64 s,.int .i64 f,.int .i64 r,.int .i64 υ,.int .i64 μ] 31)) (fun q _ _ hq=>Below.heap_alloc _ _ _ hq)
  have HZ:=Lib.hid hz
  have HAL:=Lib.hid hal
  have HR1:Hid (Rd (w.alloc (.cells #[.int .i64 s,.int .i64 f,.int .i64 r,.int .i64 υ,.int .i64 μ] 31)) lo K nk kw):=HR.out.below ((Below.refl lo w).alloc (by omega) _)
  clear hz hal ho HR
  go_enter Tryz.func113,Tryz.ntmps113
  go_wp2_with fail
  generalize (w.alloc (.cells #[.int .i64 s,.int .i64 f,.int .i64 r,.int .i64 υ,.int .i64 μ] 31))=w1 at *
  go_loopw [7] (fun i wr=>∃ k:Nat,k≤2 * μ∧i=.int .i64 k∧Ow wr lo hi (some ⟨g,0,none⟩) n c ((List.range k).foldl F zs)∧w1.grownBy wr (some g)) (fun i _=>2 * μ - (intOf i).toNat)
  case atStart=>exact⟨0,Nat.zero_le _,rfl,ho1,grown_refl _ _⟩
  case round =>
    obtain⟨k,hk,rfl,hok,hg⟩:=hrel
    have sr:=hg.size
    have HBr:Hid (wr.heap[w.heap.size]?=some (.cells #[.int .i64 s,.int .i64 f,.int .i64 r,.int .i64 υ,.int .i64 μ] 31 (0,0))):=(hg.block w.heap.size (by have:=HZ.out;omega) (fun e=>by injection e with e;omega)).trans HBX.out
    have k3:wr.cell? ⟨w.heap.size,3,none⟩=some (.int .i64 υ):=by rw[cell_of_row wr w.heap.size 3 _ _ _ HBr.out];rfl
    have k4:wr.cell? ⟨w.heap.size,4,none⟩=some (.int .i64 μ):=by rw[cell_of_row wr w.heap.size 4 _ _ _ HBr.out];rfl
    by_cases hlt:k < 2 * μ
    . have hidx:υ * 8+k < n:=by omega
      have hco:=hok.cell hidx
      have hfo:=hok.free (υ * 8+k)
      have HS:=Lib.hid (range_next F zs k)
      rw[HSt.out] at HS
      obtain⟨h1,h2⟩:=hok.set (υ * 8+k) 0
      have H1:=Lib.hid h1
      have H2:=Lib.hid h2
      clear h1 h2
      generalize (List.range k).foldl F zs=fs at *
      generalize fs.getD (υ * 8+k) 0=v0 at *
      have n6a:(0:Int)≤(υ:Int) * 8+(k:Int):=by omega
      have n6b:(υ:Int) * 8+(k:Int) < (n:Int):=by omega
      have n6c:((υ:Int) * 8+(k:Int)).toNat=υ * 8+k:=by omega
      have hd1:decide ((k:Int) < 2 * (μ:Int))=true:=by simp;omega
      have k3s:(wr.setCell ⟨g,υ * 8+k,none⟩ (.int .i64 0)).cell? ⟨w.heap.size,3,none⟩=some (.int .i64 υ):=(World.cell?_of_block (w:=wr) (Below.heap_setCell _ _ _ _ (by show w.heap.size≠g;omega))).trans k3
      have k4s:(wr.setCell ⟨g,υ * 8+k,none⟩ (.int .i64 0)).cell? ⟨w.heap.size,4,none⟩=some (.int .i64 μ):=(World.cell?_of_block (w:=wr) (Below.heap_setCell _ _ _ _ (by show w.heap.size≠g;omega))).trans k4
      by_cases hkn:k < nk
      . obtain⟨kb,koff,rfl,hkb,hkc⟩:=HR1.out.2 (by omega)
        have q0:(wr.setCell ⟨g,υ * 8+k,none⟩ (.int .i64 0)).cell? ⟨kb,koff+k,none⟩=some (.int .i64 (kw.getD k 0)):=by
          refine(World.cell?_of_block (w:=wr) (Below.heap_setCell _ _ _ _ (by show kb≠g;omega))).trans ?_
          exact hg.cell (hkc k hkn) (fun e=>by injection e with e;have:kb=g:=e;omega)
        have hd2:decide ((k:Int) < (nk:Int))=true:=by simp;omega
        have hco2:=H1.out.cell hidx
        have hfo2:=H1.out.free (υ * 8+k)
        have HSt2:=Lib.hid (H1.out.set (υ * 8+k) (kw.getD k 0))
        rw[set_twice] at HSt2
        generalize (fs.set (υ * 8+k) 0).getD (υ * 8+k) 0=v1 at *
        generalize kw.getD k 0=x at *
        clear HR1 hkc
        go_wp2_with fail
        generalize wr.setCell ⟨g,υ * 8+k,none⟩ (.int .i64 0)=w3 at *
        have n1:(0:Int)≤(k:Int):=by omega
        have n2:(k:Int) < (nk:Int):=by omega
        have n3:IntKind.i64.wrap ((υ:Int) * 8)=(υ:Int) * 8:=IntWalk.i64_in _ (by omega)
        have n6:IntKind.i64.wrap ((υ:Int) * 8+(k:Int))=(υ:Int) * 8+(k:Int):=IntWalk.i64_in _ (by omega)
        go_still_tail 11,(by kernel_rfl)
        change wpList _ _ _ _ _ w3.drew
        clear n1 n2 n3 n6 n6a n6b n6c
        go_wp2_with fail
        go_roundw
        case rel =>
          obtain⟨h3,h4⟩:=HSt2.out
          refine⟨k+1,by omega,by go_num,?_,grown_trans hg (grown_trans H2.out (grown_drew h4))⟩
          rw[HS.out]
          exact h3.drew
        case measure=>simp[intOf];omega
      . have hd2:decide ((k:Int) < (nk:Int))=false:=by simp;omega
        have HX:Hid (kw.getD k 0=0):=getD_past kw k (by have:=hkl.out;omega)
        rw[HX.out] at HS
        clear HR1 HX
        go_wp2_with fail
        go_roundw
        case rel=>exact⟨k+1,by omega,by go_num,by rw[HS.out];exact H1.out,grown_trans hg H2.out⟩
        case measure=>simp[intOf];omega
    . obtain rfl:k=2 * μ:=by omega
      have hd1:decide (((2 * μ:Nat):Int) < 2 * (μ:Int))=false:=by simp
      go_wp2_with fail
      go_ret
      rw[HK.out]
      refine⟨rfl,hok,?_⟩
      exact grown_trans HAL.out hg
def HBox (w:World)(p:Nat)(h:Hd):Prop:=w.heap[p]?=some (.cells #[.int .i64 h.size,.int .i64 h.first,.int .i64 h.refs,.int .i64 h.shots,.int .i64 h.many] 31 (0,0))
theorem HBox.cell {w:World}{p:Nat}{h:Hd}(hb:HBox w p h)(j:Nat):w.cell? ⟨p,j,none⟩=(#[.int .i64 h.size,.int .i64 h.first,.int .i64 h.refs,.int .i64 h.shots,.int .i64 h.many]:Array Value)[j]?:=cell_of_row w p j _ _ _ hb
theorem HBox.free {w:World}{p:Nat}{h:Hd}(hb:HBox w p h)(j:Nat):w.frozen? ⟨p,j,none⟩=false:=frozen_of_row w p j _ _ hb
theorem HBox.lt {w:World}{p:Nat}{h:Hd}(hb:HBox w p h):p < w.heap.size:=(Array.getElem?_eq_some_iff.1 hb).1
theorem HBox.keep {w w':World}{p:Nat}{h:Hd}(hb:HBox w p h)(hk:w'.heap[p]?=w.heap[p]?):HBox w' p h:=hk.trans hb
theorem HBox.new (w:World)(h:Hd):HBox (w.alloc (.cells #[.int .i64 h.size,.int .i64 h.first,.int .i64 h.refs,.int .i64 h.shots,.int .i64 h.many] 31)) w.heap.size h:=heap_alloc_new w _
theorem HBox.put1 {w:World}{p:Nat}{h:Hd}(hb:HBox w p h)(x:Int):HBox (w.setCell ⟨p,1,none⟩ (.int .i64 x)) p { h with first:=x }:=by
  unfold HBox at *
  simp only[World.setCell,Array.getElem?_modify]
  simp[hb]
theorem HBox.put2 {w:World}{p:Nat}{h:Hd}(hb:HBox w p h)(x:Int):HBox (w.setCell ⟨p,2,none⟩ (.int .i64 x)) p { h with refs:=x }:=by
  unfold HBox at *
  simp only[World.setCell,Array.getElem?_modify]
  simp[hb]
def firstK (l:List Cm)(f:Int):Int:=if l.any (fun c=>!c.good && c.kind == 2)=true then 0 else f
def refsK (l:List Cm)(r:Int):Int:=if l.any (fun c=>!c.good && c.kind == 3)=true then 0 else r
theorem any_step (p:Cm→Bool)(l:List Cm)(k:Nat)(hk:k < l.length):(l.take (k+1)).any p=((l.take k).any p || p l[k]):=by
  rw[List.take_succ_eq_append_getElem hk,List.any_append];simp
def HdRel (w:World)(l:List Cm)(s f r u m:Int)(b i:Value)(wr:World):Prop :=
  ∃ k:Nat,k≤l.length∧i=.int .i64 k∧b=.bool (shotsOk (l.take k))∧HBox wr w.heap.size ⟨s,firstK (l.take k) f,refsK (l.take k) r,u,m⟩∧HBox wr (w.heap.size+1) ⟨0,0,0,0,0⟩∧Below w.heap.size w wr
set_option maxRecDepth 100000 in
set_option maxHeartbeats 4000000 in
theorem specHead12_any (g cap:Nat)(l:List Cm)(h:Hd)(keep:Int)(w:World)(hr:RdV 6 w w.heap.size (some ⟨g,0,none⟩) l.length (l.flatMap cmV))(hl:l.length≤10000) :
    Calls Tryz.prog 112 #[hdV h,.slice (some ⟨g,0,none⟩) l.length cap,.int .i64 keep] w fun e w'=>e=.returned (.tuple #[hdV ⟨h.size,firstK l h.first,refsK l h.refs,if keep=0 then 0 else h.shots,keep⟩,.bool (shotsOk l)])∧Below w.heap.size w w':=by
  obtain⟨s,f,r,u,m⟩:=h
  have b0:=HBox.new w ⟨s,f,r,u,m⟩
  have b1:=HBox.new (w.alloc (.cells #[.int .i64 s,.int .i64 f,.int .i64 r,.int .i64 u,.int .i64 m] 31)) ⟨0,0,0,0,0⟩
  have b0':=b0.keep (w':=(w.alloc (.cells #[.int .i64 s,.int .i64 f,.int .i64 r,.int .i64 u,.int .i64 m] 31)).alloc (.cells #[.int .i64 0,.int .i64 0,.int .i64 0,.int .i64 0,.int .i64 0] 31)) (Below.heap_alloc _ _ _ (by simp))
  have hz:(w.alloc (.cells #[.int .i64 s,.int .i64 f,.int .i64 r,.int .i64 u,.int .i64 m] 31)).heap.size=w.heap.size+1:=by simp
  rw[hz] at b1
  have B2:=((Below.refl w.heap.size w).alloc (Nat.le_refl _) (.cells #[.int .i64 s,.int .i64 f,.int .i64 r,.int .i64 u,.int .i64 m] 31)).alloc (by simp) (.cells #[.int .i64 0,.int .i64 0,.int .i64 0,.int .i64 0,.int .i64 0] 31)
  clear hz b0
  unfold hdV
  simp only
  go_enter Tryz.func112,Tryz.ntmps112
  go_wp2_with fail
  generalize ((w.alloc (.cells #[.int .i64 s,.int .i64 f,.int .i64 r,.int .i64 u,.int .i64 m] 31)).alloc (.cells #[.int .i64 0,.int .i64 0,.int .i64 0,.int .i64 0,.int .i64 0] 31))=w2 at *
  go_loopw [8,9] (fun b i wr=>HdRel w l s f r u m b i wr) (fun _ i _=>l.length - (intOf i).toNat)
  case atStart=>exact⟨0,Nat.zero_le _,rfl,rfl,b0',b1,B2⟩
  case round =>
    obtain⟨k,hk,rfl,rfl,hb0,hb1,hB⟩:=hrel
    have sr:=hB.size
    have p0:=hb0.lt
    have p1:=hb1.lt
    by_cases hlt:k < l.length
    . have hce:=cm_cells (hr.below hB) hlt
      have hgd:l.getD k cm0=l[k]:=by simp[List.getD_eq_getElem?_getD,hlt]
      rw[hgd] at hce
      have A5:=Lib.hid (any_step (fun c=>c.good && c.kind == 5) l k hlt)
      have A2:=Lib.hid (any_step (fun c=>!c.good && c.kind == 2) l k hlt)
      have A3:=Lib.hid (any_step (fun c=>!c.good && c.kind == 3) l k hlt)
      have HS:Hid (∀ q,shotsOk (l.take q)=(l.take q).any (fun c=>c.good && c.kind == 5)):=fun _=>rfl
      have HF:Hid (∀ q,firstK (l.take q) f=if (l.take q).any (fun c=>!c.good && c.kind == 2)=true then 0 else f):=fun _=>rfl
      have HRf:Hid (∀ q,refsK (l.take q) r=if (l.take q).any (fun c=>!c.good && c.kind == 3)=true then 0 else r):=fun _=>rfl
      have HB:=Lib.hid hB
      clear hgd hB
      generalize l[k]=x at *
      obtain⟨xk,xf,xs',xp,xt,xg⟩:=x
      have e0:wr.cell? ⟨g,k * 6,none⟩=some (.int .i64 xk):=hce 0 (by omega)
      have e1:wr.cell? ⟨g,k * 6+1,none⟩=some (.int .i64 xf):=hce 1 (by omega)
      have e2:wr.cell? ⟨g,k * 6+2,none⟩=some (.int .i64 xs'):=hce 2 (by omega)
      have e3:wr.cell? ⟨g,k * 6+3,none⟩=some (.int .i64 xp):=hce 3 (by omega)
      have e4:wr.cell? ⟨g,k * 6+4,none⟩=some (.int .i64 xt):=hce 4 (by omega)
      have e5:wr.cell? ⟨g,k * 6+5,none⟩=some (.bool xg):=hce 5 (by omega)
      clear hce
      have hba:=hb0.keep (w':=wr.alloc (.cells #[.int .i64 xk,.int .i64 xf,.int .i64 xs',.int .i64 xp,.int .i64 xt,.bool xg] 36)) (Below.heap_alloc _ _ _ p0)
      have hbb:=hb1.keep (w':=wr.alloc (.cells #[.int .i64 xk,.int .i64 xf,.int .i64 xs',.int .i64 xp,.int .i64 xt,.bool xg] 36)) (Below.heap_alloc _ _ _ p1)
      have hBa:=HB.out.alloc sr (.cells #[.int .i64 xk,.int .i64 xf,.int .i64 xs',.int .i64 xp,.int .i64 xt,.bool xg] 36)
      have HBa:=Lib.hid hBa
      have HHa:=Lib.hid hba
      have HHb:=Lib.hid hbb
      have H0:=Lib.hid hb0
      have H1:=Lib.hid hb1
      clear hBa hb0 hb1 hbb
      cases xg
      . have E5:Hid (shotsOk (l.take (k+1))=shotsOk (l.take k)):=by rw[HS.out,HS.out,A5.out];exact Bool.or_false _
        by_cases h2:xk=2
        . subst h2
          have d2:((2:Int) == 2)=true:=by simp
          have E2:Hid (firstK (l.take (k+1)) f=0):=by rw[HF.out,A2.out];simp[Hid]
          have E3:Hid (refsK (l.take (k+1)) r=refsK (l.take k) r):=by rw[HRf.out,HRf.out,A3.out];simp[Hid]
          have c1:=hba.cell 1
          have f1:=hba.free 1
          have HP:=Lib.hid (H0.out.put1 0)
          have HBs1:Hid (Below w.heap.size w (wr.setCell ⟨w.heap.size,1,none⟩ (.int .i64 0))):=HB.out.setCell (Nat.le_refl _) _
          clear A2 A3 A5 HS HF HRf hba
          generalize shotsOk (l.take k)=bk at *
          generalize firstK (l.take k) f=fk at *
          generalize refsK (l.take k) r=rk at *
          go_wp2_with fail
          go_roundw
          case rel=>exact⟨k+1,by omega,by go_num,by rw[E5.out],by rw[E2.out,E3.out];exact HP.out.keep (Below.heap_alloc _ _ _ HP.out.lt),(H1.out.keep (w':=wr.setCell ⟨w.heap.size,1,none⟩ (.int .i64 0)) (Below.heap_setCell _ _ _ _ (by show w.heap.size+1≠w.heap.size;omega))).keep (Below.heap_alloc _ _ _ (H1.out.keep (w':=wr.setCell ⟨w.heap.size,1,none⟩ (.int .i64 0)) (Below.heap_setCell _ _ _ _ (by show w.heap.size+1≠w.heap.size;omega))).lt),HBs1.out.alloc (by have:=HP.out.lt;omega) _⟩
          case measure=>simp[intOf];omega
        . have d2:(xk == 2)=false:=by simpa using h2
          have E2:Hid (firstK (l.take (k+1)) f=firstK (l.take k) f):=by rw[HF.out,HF.out,A2.out];simp[h2,Hid]
          by_cases h3:xk=3
          . subst h3
            have d3:((3:Int) == 3)=true:=by simp
            have E3:Hid (refsK (l.take (k+1)) r=0):=by rw[HRf.out,A3.out];simp[Hid]
            have c2:=hba.cell 2
            have f2:=hba.free 2
            have HP:=Lib.hid (H0.out.put2 0)
            have HBs2:Hid (Below w.heap.size w (wr.setCell ⟨w.heap.size,2,none⟩ (.int .i64 0))):=HB.out.setCell (Nat.le_refl _) _
            clear A2 A3 A5 HS HF HRf hba h2
            generalize shotsOk (l.take k)=bk at *
            generalize firstK (l.take k) f=fk at *
            generalize refsK (l.take k) r=rk at *
            go_wp2_with fail
            go_roundw
            case rel=>exact⟨k+1,by omega,by go_num,by rw[E5.out],by rw[E2.out,E3.out];exact HP.out.keep (Below.heap_alloc _ _ _ HP.out.lt),(H1.out.keep (w':=wr.setCell ⟨w.heap.size,2,none⟩ (.int .i64 0)) (Below.heap_setCell _ _ _ _ (by show w.heap.size+1≠w.heap.size;omega))).keep (Below.heap_alloc _ _ _ (H1.out.keep (w':=wr.setCell ⟨w.heap.size,2,none⟩ (.int .i64 0)) (Below.heap_setCell _ _ _ _ (by show w.heap.size+1≠w.heap.size;omega))).lt),HBs2.out.alloc (by have:=HP.out.lt;omega) _⟩
            case measure=>simp[intOf];omega
          . have d3:(xk == 3)=false:=by simpa using h3
            have E3:Hid (refsK (l.take (k+1)) r=refsK (l.take k) r):=by rw[HRf.out,HRf.out,A3.out];simp[h3,Hid]
            clear A2 A3 A5 HS HF HRf hba h2 h3
            generalize shotsOk (l.take k)=bk at *
            go_wp2_with fail
            go_roundw
            case rel=>exact⟨k+1,by omega,by go_num,by rw[E5.out],by rw[E2.out,E3.out];exact HHa.out,HHb.out,HBa.out⟩
            case measure=>simp[intOf];omega
      . have E2:Hid (firstK (l.take (k+1)) f=firstK (l.take k) f):=by rw[HF.out,HF.out,A2.out];simp[Hid]
        have E3:Hid (refsK (l.take (k+1)) r=refsK (l.take k) r):=by rw[HRf.out,HRf.out,A3.out];simp[Hid]
        have E5:Hid (shotsOk (l.take (k+1))=(shotsOk (l.take k) || (xk == 5))):=by rw[HS.out,HS.out,A5.out];exact rfl
        clear A2 A3 A5 HS HF HRf hba
        generalize shotsOk (l.take k)=bk at *
        cases bk
        . go_wp2_with fail
          go_roundw
          case rel=>exact⟨k+1,by omega,by go_num,by rw[E5.out,Bool.false_or],by rw[E2.out,E3.out];exact HHa.out,HHb.out,HBa.out⟩
          case measure=>simp[intOf];omega
        . go_wp2_with fail
          go_roundw
          case rel=>exact⟨k+1,by omega,by go_num,by rw[E5.out,Bool.true_or],by rw[E2.out,E3.out];exact HHa.out,HHb.out,HBa.out⟩
          case measure=>simp[intOf];omega
    . obtain rfl:k=l.length:=by omega
      rw[List.take_length] at hb0 ⊢
      have c0:wr.cell? ⟨w.heap.size,0,none⟩=some (.int .i64 s):=hb0.cell 0
      have c1:wr.cell? ⟨w.heap.size,1,none⟩=some (.int .i64 (firstK l f)):=hb0.cell 1
      have c2:wr.cell? ⟨w.heap.size,2,none⟩=some (.int .i64 (refsK l r)):=hb0.cell 2
      have c3:wr.cell? ⟨w.heap.size,3,none⟩=some (.int .i64 u):=hb0.cell 3
      have c4:wr.cell? ⟨w.heap.size,4,none⟩=some (.int .i64 m):=hb0.cell 4
      have f3:=hb0.free 3
      have f4:=hb0.free 4
      have e0:wr.cell? ⟨w.heap.size+1,0,none⟩=some (.int .i64 0):=hb1.cell 0
      have e1:wr.cell? ⟨w.heap.size+1,1,none⟩=some (.int .i64 0):=hb1.cell 1
      have e2:wr.cell? ⟨w.heap.size+1,2,none⟩=some (.int .i64 0):=hb1.cell 2
      have e3:wr.cell? ⟨w.heap.size+1,3,none⟩=some (.int .i64 0):=hb1.cell 3
      have e4:wr.cell? ⟨w.heap.size+1,4,none⟩=some (.int .i64 0):=hb1.cell 4
      have k0:=hb1.free 0
      have k1:=hb1.free 1
      have k2:=hb1.free 2
      have k3:=hb1.free 3
      have k4:=hb1.free 4
      have HB:=Lib.hid hB
      clear hb0 hb1 hB
      by_cases h0:keep=0
      . subst h0
        have d0:((0:Int) == 0)=true:=by simp
        go_wp2_with fail
        refine bodyPost_ret (v:=.tuple #[hdV ⟨s,firstK l f,refsK l r,0,0⟩,.bool (shotsOk l)]) (by simp[results,Tryz.results112,go_sem,hdV,e0,e1,e2,e3,e4]) rfl ⟨rfl,?_⟩
        iterate 7 (refine Below.setCell ?_ (by show w.heap.size≤_;simp) _)
        exact HB.out
      . have d0:(keep == 0)=false:=by simpa using h0
        go_wp2_with fail
        refine bodyPost_ret (v:=.tuple #[hdV ⟨s,firstK l f,refsK l r,u,keep⟩,.bool (shotsOk l)]) (by simp[results,Tryz.results112,go_sem,hdV,e0,e1,e2,e3,e4]) rfl ⟨rfl,?_⟩
        iterate 6 (refine Below.setCell ?_ (by show w.heap.size≤_;simp) _)
        exact HB.out
theorem kind5_tab {xs:List Int}{size:Int}{l:List Cm}{kind:Int}{frm:Nat}{place step t:Int}(hk:kind≠5)(hl:∀ c ∈ l,c.kind=5→c.target=t):∀ c ∈ tabC xs size l kind frm place step,c.kind=5→c.target=t:=by
  unfold tabC
  refine foldl_all (fun c:Cm=>c.kind=5→c.target=t) (fun _=>True) _ (fun l i hl _=>?_) _ _ hl (fun _ _=>trivial)
  unfold tabStep
  split
  . exact addC_all _ hl (fun h=>absurd h hk)
  . exact hl
theorem kind5_shots (xs:List Int):∀ c ∈ claimsC xs,c.kind=5→c.target=(headOf xs).shots:=by
  have h2:∀ c ∈ c2C xs (headOf xs),c.kind=5→c.target=(headOf xs).shots:=by
    intro c hc
    unfold c2C c1C addC at hc
    simp at hc
    rcases hc with rfl | rfl | rfl <;> simp
  have h3:∀ c ∈ c3C xs (headOf xs),c.kind=5→c.target=(headOf xs).shots:=by
    unfold c3C;split
    . exact kind5_tab (by omega) h2
    . exact h2
  have h4:∀ c ∈ c4C xs (headOf xs),c.kind=5→c.target=(headOf xs).shots:=by
    have h5:∀ c ∈ addC xs (headOf xs).size (c3C xs (headOf xs)) ⟨5,0,0,0,(headOf xs).shots,false⟩,c.kind=5→c.target=(headOf xs).shots:=addC_all _ h3 (fun _=>rfl)
    unfold c4C shotsC;split
    . exact h3
    . split
      . exact foldl_all (fun c:Cm=>c.kind=5→c.target=(headOf xs).shots) (fun _=>True) _ (fun l i hl _=>addC_all _ hl (fun h=>by simp at h)) _ _ h5 (fun _ _=>trivial)
      . exact h5
  have h5:∀ c ∈ c5C xs (headOf xs),c.kind=5→c.target=(headOf xs).shots:=by
    unfold c5C
    exact foldl_all (fun c:Cm=>c.kind=5→c.target=(headOf xs).shots) (fun _=>True) _ (fun l i hl _=>kind5_tab (by omega) hl) _ _ h4 (fun _ _=>trivial)
  unfold claimsC c6C
  refine foldl_all (fun c:Cm=>c.kind=5→c.target=(headOf xs).shots) (fun _=>True) _ (fun l c hl _=>?_) _ _ h5 (fun _ _=>trivial)
  unfold datStep
  split
  . exact kind5_tab (by omega) hl
  . exact hl
theorem shots_there {xs:List Int}(h:shotsOk (claimsC xs)=true):thereB xs (headOf xs).shots=true:=by
  unfold shotsOk at h
  rw[List.any_eq_true] at h
  obtain⟨c,hc,hk⟩:=h
  simp at hk
  have:=kind5_shots xs c hc hk.2
  rcases (claims_ok xs c hc).lead hk.1 with h1 | h1
  . omega
  . rw[this] at h1;exact h1
def ClrRel (w6:World)(lo hi g n c:Nat)(l:List Cm)(z:List Int)(i:Value)(wr:World):Prop :=
  ∃ k:Nat,k≤l.length∧i=.int .i64 k∧Ow wr lo hi (some ⟨g,0,none⟩) n c ((l.take k).foldl clrStep z)∧w6.grownBy wr (some g)
set_option maxRecDepth 100000 in
set_option maxHeartbeats 8000000 in
theorem specClr_any (A:Option Addr)(n cb:Nat)(xs:List Int)(w:World)(hr:Rd w w.heap.size A n xs)(hh:hasHead xs=true) :
    Calls Tryz.prog 73 #[.slice A n cb] w (Ret w (clrC xs)):=by
  have hlen:=hasHead_len hh
  have hn:n≤512:=by have:=hr.len;omega
  have hmany:=manyN_le (hasHead_img hh)
  have hall:=headB_all (hasHead_ok hh)
  have HI:=Lib.hid (headIn_yes hh)
  have HH:=Lib.hid hh
  have HC:Hid (clrC xs=setCl ((claimsC xs).foldl clrStep (if shotsOk (claimsC xs)=true then keepL (headOf xs) (keepOf xs (claimsC xs)) (whole xs) else whole xs)) 0 (hdW ⟨(headOf xs).size,firstK (claimsC xs) (headOf xs).first,refsK (claimsC xs) (headOf xs).refs,if ((keepOf xs (claimsC xs)).length / 2:Nat)=0 then 0 else (headOf xs).shots,((keepOf xs (claimsC xs)).length / 2:Nat)⟩)):=rfl
  have HTh:=Lib.hid (fun h=>shots_there (xs:=xs) h)
  have HOk:=Lib.hid (claims_ok xs)
  have hp:0 < manyN xs:=by unfold manyN;omega
  clear hh
  go_enter Tryz.func73,Tryz.ntmps73
  go_wp2_with fail
  refine(specHeadIn_any _ _ _ xs _ hr (by omega)).mono ?_
  rintro e w1 ⟨rfl,b1⟩
  rw[HI.out]
  generalize headOf xs=h at *
  obtain⟨s,f,r,u,m⟩:=h
  simp only at hall
  unfold hdV
  have b2:=b1.alloc b1.size (.cells #[.int .i64 s,.int .i64 f,.int .i64 r,.int .i64 u,.int .i64 m] 31)
  have hx0:HBox (w1.alloc (.cells #[.int .i64 s,.int .i64 f,.int .i64 r,.int .i64 u,.int .i64 m] 31)) w1.heap.size ⟨s,f,r,u,m⟩:=HBox.new w1 ⟨s,f,r,u,m⟩
  have hz:(w1.alloc (.cells #[.int .i64 s,.int .i64 f,.int .i64 r,.int .i64 u,.int .i64 m] 31)).heap.size=w1.heap.size+1:=by simp
  go_wp2_with fail
  generalize (w1.alloc (.cells #[.int .i64 s,.int .i64 f,.int .i64 r,.int .i64 u,.int .i64 m] 31))=w2 at *
  refine(specClaims_any A n cb xs w2 ((hr.below b2).more b2.size) (by omega) HH.out).mono ?_
  rintro e w3 ⟨g,cg,rfl,oG,b3⟩
  have s3:=b3.size
  have b03:=below_more b2 b3 b2.size
  have hgl:=oG.low
  have hgt:=oG.lt
  have hx3:=hx0.keep (b3.block _ (by omega))
  have hll:=claims_length xs
  have HSl:Hid (∀ c ∈ claimsC xs,c.kind=6→0≤c.slot∧c.slot < (shotsL xs).length):=fun c hc hk=>⟨(HOk.out c hc).slot0,(HOk.out c hc).shot hk⟩
  have RD:=Lib.hid oG.rd
  go_wp2_with fail
  refine(specKept_any A n cb g cg xs (claimsC xs) w3 ((hr.below b03).more b03.size) (by omega) RD.out (by omega) HSl.out).mono ?_
  rintro e w4 ⟨gk,nk,ck,rfl,hck,ok4,b4⟩
  have s4:=b4.size
  have b04:=below_more b03 b4 b03.size
  have hx4:=hx3.keep (b4.block _ (by omega))
  have RD4:=Lib.hid (RD.out.below b4)
  have hnk:=ok4.len
  have hkl:=keepOf_length xs (claimsC xs)
  go_wp2_with fail
  refine(specWhole_any A n cb xs w4 ((hr.below b04).more b04.size) (by omega)).mono ?_
  rintro e w5 ⟨go,no,co,rfl,hco,o5,b5⟩
  have s5:=b5.size
  have b05:=below_more b04 b5 b04.size
  have hx5:=hx4.keep (b5.block _ (by omega))
  have RD5:=Lib.hid ((RD4.out.more (by omega:w3.heap.size≤w4.heap.size)).below b5)
  have rk5:=ok4.rd.below b5
  obtain rfl:manyN xs * 8=no:=by have:=o5.len;rw[whole_length] at this;exact this
  have hgo:w4.heap.size≤go∧go < w5.heap.size:=by
    rcases o5.form with ⟨h,_⟩ | ⟨x,hx,h1,h2,_⟩
    . cases h
    . injection hx with hx;injection hx with hx;omega
  have k0:w5.cell? ⟨w1.heap.size,0,none⟩=some (.int .i64 s):=hx5.cell 0
  have k1:w5.cell? ⟨w1.heap.size,1,none⟩=some (.int .i64 f):=hx5.cell 1
  have k2:w5.cell? ⟨w1.heap.size,2,none⟩=some (.int .i64 r):=hx5.cell 2
  have k3:w5.cell? ⟨w1.heap.size,3,none⟩=some (.int .i64 u):=hx5.cell 3
  have k4:w5.cell? ⟨w1.heap.size,4,none⟩=some (.int .i64 m):=hx5.cell 4
  have hb1:=b1.size
  have hb2:=b2.size
  clear b1 b2 b3 b4 oG hx0 hx3 hx4 b03 b04 RD RD4
  generalize claimsC xs=l at *
  obtain⟨kw,hkw⟩:∃ kw,kw=keepOf xs l:=⟨_,rfl⟩
  rw[← hkw] at HC ok4 rk5 hnk hkl
  have HKW:=Lib.hid hkw
  clear hkw
  go_wp2_with fail
  refine(specHead12_any g cg l ⟨s,f,r,u,m⟩ ((nk:Int) / 2) w5 (RD5.out.more (by omega)) (by omega)).mono ?_
  rintro e w6 ⟨rfl,b6⟩
  simp only
  have HQ:Hid ((kw.length / 2:Nat)=((nk / 2:Nat))):=by rw[hnk];exact rfl
  obtain⟨U,hU⟩:∃ U:Int,(if (nk:Int) / 2=0 then 0 else u)=U:=⟨_,rfl⟩
  have HX:Hid (clrC xs=setCl (l.foldl clrStep (if shotsOk l=true then keepL ⟨s,f,r,u,m⟩ kw (whole xs) else whole xs)) 0 (hdW ⟨s,firstK l f,refsK l r,U,(nk:Int) / 2⟩)):=by
    rw[HC.out,HQ.out,← hU]
    have e1:((nk / 2:Nat):Int)=(nk:Int) / 2:=by omega
    have e2:(if (nk / 2:Nat)=0 then (0:Int) else u)=(if (nk:Int) / 2=0 then 0 else u):=by
      by_cases h0:nk / 2=0
      . rw[if_pos h0,if_pos (by omega)]
      . rw[if_neg h0,if_neg (by omega)]
    rw[e2,e1]
    exact rfl
  rw[hU]
  clear hU HC HQ k0 k1 k2 k3 k4
  generalize firstK l f=F at *
  generalize refsK l r=R at *
  generalize (nk:Int) / 2=Q at *
  unfold hdV
  have b06:=below_more b05 b6 b05.size
  have s6:=b6.size
  have hx6:=hx5.keep (b6.block _ (by omega))
  have o6:=o5.below b6 (Nat.le_refl _)
  have rk6:=rk5.below (b6.mono (by omega))
  have RD6:=Lib.hid (RD5.out.below (b6.mono (by omega)))
  have b07:=b06.alloc b06.size (.cells #[.int .i64 s,.int .i64 F,.int .i64 R,.int .i64 U,.int .i64 Q] 31)
  have y7:HBox (w6.alloc (.cells #[.int .i64 s,.int .i64 F,.int .i64 R,.int .i64 U,.int .i64 Q] 31)) w6.heap.size ⟨s,F,R,U,Q⟩:=HBox.new w6 ⟨s,F,R,U,Q⟩
  have al7:=(Below.refl w6.heap.size w6).alloc (Nat.le_refl _) (.cells #[.int .i64 s,.int .i64 F,.int .i64 R,.int .i64 U,.int .i64 Q] 31)
  have hx7:=hx6.keep (al7.block _ (by have:=hx6.lt;omega))
  have o7:=o6.below al7 (by omega)
  have rk7:=rk6.below (al7.mono (by omega))
  have RD7:=Lib.hid (RD6.out.below (al7.mono (by omega)))
  have hz7:(w6.alloc (.cells #[.int .i64 s,.int .i64 F,.int .i64 R,.int .i64 U,.int .i64 Q] 31)).heap.size=w6.heap.size+1:=by simp
  have k0:(w6.alloc (.cells #[.int .i64 s,.int .i64 F,.int .i64 R,.int .i64 U,.int .i64 Q] 31)).cell? ⟨w1.heap.size,0,none⟩=some (.int .i64 s):=hx7.cell 0
  have k1:(w6.alloc (.cells #[.int .i64 s,.int .i64 F,.int .i64 R,.int .i64 U,.int .i64 Q] 31)).cell? ⟨w1.heap.size,1,none⟩=some (.int .i64 f):=hx7.cell 1
  have k2:(w6.alloc (.cells #[.int .i64 s,.int .i64 F,.int .i64 R,.int .i64 U,.int .i64 Q] 31)).cell? ⟨w1.heap.size,2,none⟩=some (.int .i64 r):=hx7.cell 2
  have k3:(w6.alloc (.cells #[.int .i64 s,.int .i64 F,.int .i64 R,.int .i64 U,.int .i64 Q] 31)).cell? ⟨w1.heap.size,3,none⟩=some (.int .i64 u):=hx7.cell 3
  have k4:(w6.alloc (.cells #[.int .i64 s,.int .i64 F,.int .i64 R,.int .i64 U,.int .i64 Q] 31)).cell? ⟨w1.heap.size,4,none⟩=some (.int .i64 m):=hx7.cell 4
  clear o5 o6 rk5 rk6 ok4 RD5 RD6 hx5 hx6 b05 b06 b5 b6 al7
  cases hso:shotsOk l
  case' false =>
    have HZ1:Hid (clrC xs=setCl (l.foldl clrStep (whole xs)) 0 (hdW ⟨s,F,R,U,Q⟩)):=by rw[HX.out,hso];exact rfl
    clear HX
    go_wp2_with fail
    generalize (w6.alloc (.cells #[.int .i64 s,.int .i64 F,.int .i64 R,.int .i64 U,.int .i64 Q] 31))=w7 at *
    obtain⟨z,hzz⟩:∃ z,z=whole xs:=⟨_,rfl⟩
    rw[← hzz] at HZ1 o7
    have HZZ:Hid (z.length=manyN xs * 8):=by rw[hzz];exact whole_length xs
    clear hzz
    obtain⟨w8,h78⟩:∃ w8,w8=w7:=⟨_,rfl⟩
    rw[← h78] at o7 y7 b07 RD7 hz7 ⊢
    have s8:w6.heap.size+1≤w8.heap.size:=by omega
    clear h78 hz7 k0 k1 k2 k3 k4 hx7 rk7
  case' true =>
    have hth:=HTh.out hso
    have htl:=there_lt hth
    have HZ1:Hid (clrC xs=setCl (l.foldl clrStep (keepL ⟨s,f,r,u,m⟩ kw (whole xs))) 0 (hdW ⟨s,F,R,U,Q⟩)):=by rw[HX.out,hso];exact rfl
    clear HX
    go_wp2_with fail
    generalize (w6.alloc (.cells #[.int .i64 s,.int .i64 F,.int .i64 R,.int .i64 U,.int .i64 Q] 31))=w7 at *
    refine(specKeep_any go (manyN xs * 8) co w4.heap.size w5.heap.size nk ck (some ⟨gk,0,none⟩) (whole xs) kw ⟨s,f,r,u,m⟩ w7 o7 rk7 hgo.1 (by simp only;omega) (by simp only;omega) (by simp only;omega) (by simp only;omega) (by omega) (by omega)).mono ?_
    rintro e w8 ⟨rfl,o8,g8⟩
    have y7:=y7.keep (g8.block _ (by omega) (fun e=>by injection e with e;omega))
    have b07:=b07.grown g8 b07.size (fun q e=>by cases e;omega)
    have RD7:=Lib.hid (RD7.out.grown g8 (by show g < _;omega) (by show g≠go;omega))
    have s8:w6.heap.size+1≤w8.heap.size:=by have:=g8.size;omega
    obtain⟨z,hzz⟩:∃ z,z=keepL ⟨s,f,r,u,m⟩ kw (whole xs):=⟨_,rfl⟩
    have HZZ:Hid (z.length=manyN xs * 8):=by rw[hzz];exact o8.len ▸ rfl
    rw[← hzz] at HZ1 o8
    have o7:=o8
    clear hzz o8 g8 hz7 k0 k1 k2 k3 k4 hx7 rk7 hth htl
    go_wp2_with fail
  all_goals
    have HY:=Lib.hid y7
    have HB:=Lib.hid b07
    clear y7 b07 hso HTh
    go_loopw [10] (fun i wr=>ClrRel w8 w4.heap.size w5.heap.size go (manyN xs * 8) co l z i wr) (fun i _=>l.length - (intOf i).toNat)
    case atStart=>exact⟨0,Nat.zero_le _,rfl,o7,grown_refl _ _⟩
    case round =>
      obtain⟨k,hk,rfl,ho,hg⟩:=hrel
      have sr:=hg.size
      by_cases hlt:k < l.length
      . have hce:=cm_cells (RD7.out.grown hg (by show g < _;omega) (by show g≠go;omega)) hlt
        have hgd:l.getD k cm0=l[k]:=by simp[List.getD_eq_getElem?_getD,hlt]
        rw[hgd] at hce
        have HS:=Lib.hid (take_fold clrStep l z k hlt)
        have HO:=Lib.hid (HOk.out _ (List.getElem_mem hlt))
        clear hgd
        generalize (l.take k).foldl clrStep z=fs at *
        generalize l[k]=x at *
        obtain⟨xk,xf,xs',xp,xt,xg⟩:=x
        have e0:wr.cell? ⟨g,k * 6,none⟩=some (.int .i64 xk):=hce 0 (by omega)
        have e1:wr.cell? ⟨g,k * 6+1,none⟩=some (.int .i64 xf):=hce 1 (by omega)
        have e2:wr.cell? ⟨g,k * 6+2,none⟩=some (.int .i64 xs'):=hce 2 (by omega)
        have e3:wr.cell? ⟨g,k * 6+3,none⟩=some (.int .i64 xp):=hce 3 (by omega)
        have e4:wr.cell? ⟨g,k * 6+4,none⟩=some (.int .i64 xt):=hce 4 (by omega)
        have e5:wr.cell? ⟨g,k * 6+5,none⟩=some (.bool xg):=hce 5 (by omega)
        clear hce
        have hoa:=Lib.hid (ho.keep (w':=wr.alloc (.cells #[.int .i64 xk,.int .i64 xf,.int .i64 xs',.int .i64 xp,.int .i64 xt,.bool xg] 36)) (fun q _ _ hq=>Below.heap_alloc _ _ _ hq))
        have hga:=Lib.hid (grown_trans hg (World.grownBy_alloc wr (.cells #[.int .i64 xk,.int .i64 xf,.int .i64 xs',.int .i64 xp,.int .i64 xt,.bool xg] 36) (some go)))
        cases xg
        . by_cases hkk:xk=4∨7≤xk
          · have HE : Hid ((l.take (k + 1)).foldl clrStep z = fs.set (xf.toNat * 8 + xs'.toNat) 0) := by
              rw[HS.out]
              show clrStep fs _=_
              unfold clrStep lzB
              exact if_pos (by rcases hkk with h | h <;> simp[h])
            have hk8:=HO.out.kind1
            have hfr:=HO.out.from_ (by simp only at hk8 ⊢;omega)
            have hs0:=HO.out.slot0
            have hs1:=HO.out.slot1
            simp only at hfr hs0 hs1
            obtain⟨t1,t2⟩:=there_lt hfr
            obtain⟨τ,rfl⟩:=Int.eq_ofNat_of_zero_le (show 0≤xf by omega)
            obtain⟨σ,rfl⟩:=Int.eq_ofNat_of_zero_le hs0
            rw[Int.toNat_natCast,Int.toNat_natCast] at HE
            have hidx:τ * 8+σ < manyN xs * 8:=by omega
            have hcc:=ho.cell hidx
            have hff:=ho.free (τ * 8+σ)
            have HSt:=Lib.hid (ho.set (τ * 8+σ) 0)
            have n6a:(0:Int)≤(τ:Int) * 8+(σ:Int):=by omega
            have n6b:(τ:Int) * 8+(σ:Int) < (manyN xs:Int) * 8:=by omega
            have n6c:((τ:Int) * 8+(σ:Int)).toNat=τ * 8+σ:=by omega
            have n6d:(τ:Int) * 8+(σ:Int) < ((manyN xs * 8:Nat):Int):=by omega
            have hgw:=ow_lt ho
            clear HS HO hfr hs0 hk8
            generalize fs.getD (τ * 8+σ) 0=v0 at *
            have fin:Hid (ClrRel w8 w4.heap.size w5.heap.size go (manyN xs * 8) co l z (.int .i64 ((k+1:Nat):Int)) ((wr.setCell ⟨go,τ * 8+σ,none⟩ (.int .i64 0)).alloc (.cells #[.int .i64 xk,.int .i64 τ,.int .i64 σ,.int .i64 xp,.int .i64 xt,.bool false] 36))):=by
              obtain⟨h1,h2⟩:=HSt.out
              refine⟨k+1,by omega,rfl,?_,grown_trans hg (grown_trans h2 (World.grownBy_alloc _ _ _))⟩
              rw[HE.out]
              exact h1.keep (fun q _ _ hq=>Below.heap_alloc _ _ _ hq)
            rcases (show xk < 7∨7≤xk by omega) with h7 | h7
            . obtain rfl:xk=4:=by omega
              have d4:((4:Int) == 4)=true:=by simp
              clear hkk
              go_wp2_with fail
              go_roundw
              case rel=>exact fin.out
              case measure=>simp[intOf];omega
            . have d4:(xk == 4)=false:=by simp;omega
              have d7:decide ((7:Int)≤xk)=true:=by simpa using h7
              clear hkk
              go_wp2_with fail
              go_roundw
              case rel=>exact fin.out
              case measure=>simp[intOf];omega
          · have HE : Hid ((l.take (k + 1)).foldl clrStep z = fs) := by
              rw[HS.out]
              show clrStep fs _=_
              unfold clrStep lzB
              exact if_neg (by simp;omega)
            have d4:(xk == 4)=false:=by simp;omega
            have d7:decide ((7:Int)≤xk)=false:=by simp;omega
            clear HS HO hkk
            go_wp2_with fail
            go_roundw
            case rel=>exact⟨k+1,by omega,by go_num,by rw[HE.out];exact hoa.out,hga.out⟩
            case measure=>simp[intOf];omega
        . have HE:Hid ((l.take (k+1)).foldl clrStep z=fs):=by rw[HS.out];exact rfl
          clear HS HO
          go_wp2_with fail
          go_roundw
          case rel=>exact⟨k+1,by omega,by go_num,by rw[HE.out];exact hoa.out,hga.out⟩
          case measure=>simp[intOf];omega
      . obtain rfl:k=l.length:=by omega
        rw[List.take_length] at ho
        have hyr:=HY.out.keep (hg.block _ (by omega) (fun e=>by injection e with e;omega))
        have q0:wr.cell? ⟨w6.heap.size,0,none⟩=some (.int .i64 s):=hyr.cell 0
        have q1:wr.cell? ⟨w6.heap.size,1,none⟩=some (.int .i64 F):=hyr.cell 1
        have q2:wr.cell? ⟨w6.heap.size,2,none⟩=some (.int .i64 R):=hyr.cell 2
        have q3:wr.cell? ⟨w6.heap.size,3,none⟩=some (.int .i64 U):=hyr.cell 3
        have q4:wr.cell? ⟨w6.heap.size,4,none⟩=some (.int .i64 Q):=hyr.cell 4
        have br:=HB.out.grown hg HB.out.size (fun q e=>by cases e;omega)
        clear hyr
        go_wp2_with fail
        refine(specHdWords_any ⟨s,F,R,U,Q⟩ wr).mono ?_
        rintro e w9 ⟨g9,n9,c9,rfl,hc9,o9,b9⟩
        obtain rfl:8=n9:=o9.len
        have b09:=below_more br b9 br.size
        have s9:=b9.size
        go_wp2_with fail
        refine(specWith_any go 0 (manyN xs * 8) co 0 (l.foldl clrStep z) (hdW ⟨s,F,R,U,Q⟩) (some ⟨g9,0,none⟩) c9 w9 ((ho.below b9 (by omega)).rd.more (by omega)) o9.rd hco (by omega) (by omega) (by omega)).mono ?_
        rintro e w10 ⟨G,ng,cg',rfl,oG,b10⟩
        go_wp2_with fail
        go_ret
        rw[HZ1.out]
        exact⟨G,ng,cg',rfl,oG.more b09.size (Nat.le_refl _),below_more b09 b10 b09.size⟩
end Go.Proofs.YtibokhkohanoaabGreatDoor
