/- Cleared: what the program does to a head and to words, claim by claim from the last one on; in the end it is what the model does. Plain mathematics. Cleared: what the program's steps come to, and that each of them stays within head and words. Plain mathematics. Cleared (chapter 12), the program's side: an image behind a pointer; a Shot that is left out. Cleared (chapter 12), the program's side: one claim is dropped; the head is written. The exact law of chapter 12, walked, given what the program's own function answers. Cleared (chapter 12), the program's side: the loose claims, from the last one on; the whole. Clearing (chapter 12): what the program's own function answers. -/
import Derived.Test.YtibokhkohanoaabGreatDoorH2
import Derived.Laws.CopyOwn
import Derived.Test.YtibokhkohanoaabGreatDoorX1
import Derived.Test.YtibokhkohanoaabGreatDoorW1
import Derived.Deep.RegionHeld3
import Derived.Test.YtibokhkohanoaabGreatDoorQ5
import Derived.Test.YtibokhkohanoaabGreatDoorY5
import Derived.Test.YtibokhkohanoaabGreatDoorXR
import Derived.Test.YtibokhkohanoaabGreatDoorY2
import Derived.Test.YtibokhkohanoaabGreatDoorX2
namespace Go.Proofs.YtibokhkohanoaabGreatDoor
open Go.RowKit
open Go.RowKit Go.Shelf
theorem splice_get {o cs:List Int}{off j:Nat}(h:off+cs.length≤o.length):(Go.splice o off cs).getD j 0=if off≤j∧j < off+cs.length then cs.getD (j - off) 0 else o.getD j 0:=by
  unfold Go.splice
  rw[List.getD_eq_getElem?_getD,List.getElem?_append,List.length_take,Nat.min_eq_left (by omega)]
  by_cases h1:j < off
  . rw[if_pos h1,if_neg (by omega),List.getElem?_take_of_lt h1,List.getD_eq_getElem?_getD]
  . rw[if_neg h1,List.getElem?_append]
    by_cases h2:j - off < cs.length
    . rw[if_pos h2,if_pos (by omega),List.getD_eq_getElem?_getD]
    . rw[if_neg h2,if_neg (by omega),List.getElem?_drop,List.getD_eq_getElem?_getD]
      congr 2
      omega
theorem cut_get (o:List Int)(a k j:Nat):((o.drop a).take k).getD j 0=if j < k then o.getD (a+j) 0 else 0:=by
  rw[List.getD_eq_getElem?_getD,List.getElem?_take]
  split
  . rw[List.getElem?_drop,List.getD_eq_getElem?_getD]
  . rfl
def leave1 (base m s:Nat)(o:List Int):List Int:=Go.splice o (base+2 * s) ((o.drop (base+2 * s+2)).take (2 * m - 2 * s - 2))
def leaveL (base m s:Nat)(o:List Int):List Int:=Go.splice (leave1 base m s o) (base+2 * m - 2) [0,0]
theorem cut_len {o:List Int}{base m s:Nat}(hs:s < m)(hb:base+2 * m≤o.length):((o.drop (base+2 * s+2)).take (2 * m - 2 * s - 2)).length=2 * m - 2 * s - 2:=by simp;omega
theorem leave1_length {o:List Int}{base m s:Nat}(hs:s < m)(hb:base+2 * m≤o.length):(leave1 base m s o).length=o.length:=by
  unfold leave1
  rw[Go.length_splice _ _ _ (by rw[cut_len hs hb];omega)]
theorem leaveL_length {o:List Int}{base m s:Nat}(hs:s < m)(hb:base+2 * m≤o.length):(leaveL base m s o).length=o.length:=by
  unfold leaveL
  rw[Go.length_splice _ _ _ (by rw[leave1_length hs hb];simp;omega),leave1_length hs hb]
theorem two_zero (i:Nat):([0,0]:List Int).getD i 0=0:=by
  rcases i with _ | _ | i <;> rfl
theorem leaveL_get {o:List Int}{base m s j:Nat}(hs:s < m)(hb:base+2 * m≤o.length) :
    (leaveL base m s o).getD j 0=if base+2 * s≤j∧j < base+2 * m - 2 then o.getD (j+2) 0 else if base+2 * m - 2≤j∧j < base+2 * m then 0 else o.getD j 0:=by
  unfold leaveL
  rw[splice_get (by rw[leave1_length hs hb];simp;omega)]
  simp only[List.length_cons,List.length_nil]
  by_cases h1:base+2 * m - 2≤j∧j < base+2 * m
  . rw[if_pos (by omega),if_neg (by omega),if_pos h1,two_zero]
  . rw[if_neg (by omega),if_neg h1]
    unfold leave1
    rw[splice_get (by rw[cut_len hs hb];omega),cut_len hs hb,cut_get]
    by_cases h2:base+2 * s≤j∧j < base+2 * m - 2
    . rw[if_pos (by omega),if_pos (by omega),if_pos h2]
      congr 1
      omega
    . rw[if_neg (by omega),if_neg h2]
def dropC (c:Cm)(s:Hd × List Int):Hd × List Int :=
  if c.kind=2 then ({ s.1 with first:=0 },s.2)
  else if c.kind=3 then ({ s.1 with refs:=0 },s.2)
  else if c.kind=5 then ({ s.1 with many:=0 },s.2)
  else if c.kind=6 then ({ s.1 with many:=s.1.many - 1 },leaveL (s.1.shots.toNat * 8) s.1.many.toNat c.slot.toNat s.2)
  else if c.kind=4∨7≤c.kind then (s.1,s.2.set (c.frm.toNat * 8+c.slot.toNat) 0)
  else s
def dropsC (l:List Cm)(s:Hd × List Int):Hd × List Int:=l.foldr dropC s
def endHead (h:Hd):Hd:=if h.many=0 then { h with shots:=0 } else h
theorem drops_append (l m:List Cm)(s:Hd × List Int):dropsC (l++m) s=dropsC l (dropsC m s):=List.foldr_append
theorem drops_plain:∀ (l:List Cm) (h:Hd) (o:List Int),(∀ c ∈ l,c.kind≠6) →
    (dropsC l (h,o)).1=⟨h.size,if l.any (fun c=>c.kind == 2)=true then 0 else h.first,if l.any (fun c=>c.kind == 3)=true then 0 else h.refs,h.shots,if l.any (fun c=>c.kind == 5)=true then 0 else h.many⟩ ∧
      (dropsC l (h,o)).2.length=o.length∧∀ j,(dropsC l (h,o)).2.getD j 0=if l.any (fun c=>(c.kind == 4 || decide (7≤c.kind)) && decide (c.frm.toNat * 8+c.slot.toNat=j))=true then 0 else o.getD j 0
  | [],h,o,_=>⟨rfl,rfl,fun j=>by simp[dropsC]⟩
  | c :: l,h,o,hk=>by
    obtain⟨h1,h2,h3⟩:=drops_plain l h o (fun d hd=>hk d (by simp[hd]))
    have hc:=hk c (by simp)
    have e:dropsC (c :: l) (h,o)=dropC c (dropsC l (h,o)):=rfl
    rw[e]
    generalize dropsC l (h,o)=r at *
    obtain⟨r1,r2⟩:=r
    simp only at h1 h2 h3
    subst h1
    simp only[List.any_cons]
    by_cases k2:c.kind=2
    . have:dropC c (⟨h.size,if l.any (fun c=>c.kind == 2)=true then 0 else h.first,if l.any (fun c=>c.kind == 3)=true then 0 else h.refs,h.shots,if l.any (fun c=>c.kind == 5)=true then 0 else h.many⟩,r2)=(⟨h.size,0,if l.any (fun c=>c.kind == 3)=true then 0 else h.refs,h.shots,if l.any (fun c=>c.kind == 5)=true then 0 else h.many⟩,r2):=if_pos k2
      rw[this]
      refine⟨by simp[k2],h2,fun j=>?_⟩
      rw[h3]
      simp[k2]
    . by_cases k3:c.kind=3
      · have : dropC c (⟨h.size, if l.any (fun c => c.kind == 2) = true then 0 else h.first, if l.any (fun c => c.kind == 3) = true then 0 else h.refs, h.shots, if l.any (fun c => c.kind == 5) = true then 0 else h.many⟩, r2) = (⟨h.size, if l.any (fun c => c.kind == 2) = true then 0 else h.first, 0, h.shots, if l.any (fun c => c.kind == 5) = true then 0 else h.many⟩, r2) := by
          unfold dropC;rw[if_neg k2,if_pos k3]
        rw[this]
        refine⟨by simp[k3],h2,fun j=>?_⟩
        rw[h3]
        simp[k3]
      . by_cases k5:c.kind=5
        · have : dropC c (⟨h.size, if l.any (fun c => c.kind == 2) = true then 0 else h.first, if l.any (fun c => c.kind == 3) = true then 0 else h.refs, h.shots, if l.any (fun c => c.kind == 5) = true then 0 else h.many⟩, r2) = (⟨h.size, if l.any (fun c => c.kind == 2) = true then 0 else h.first, if l.any (fun c => c.kind == 3) = true then 0 else h.refs, h.shots, 0⟩, r2) := by
            unfold dropC;rw[if_neg k2,if_neg k3,if_pos k5]
          rw[this]
          refine⟨by simp[k5],h2,fun j=>?_⟩
          rw[h3]
          simp[k5]
        . have b2:(c.kind == 2)=false:=by simpa using k2
          have b3:(c.kind == 3)=false:=by simpa using k3
          have b5:(c.kind == 5)=false:=by simpa using k5
          simp only[b2,b3,b5,Bool.false_or]
          by_cases k4:c.kind=4∨7≤c.kind
          . have b4:(c.kind == 4 || decide (7≤c.kind))=true:=by rcases k4 with h | h <;> simp[h]
            unfold dropC
            rw[if_neg k2,if_neg k3,if_neg k5,if_neg hc,if_pos k4]
            refine⟨by simp,by simpa using h2,fun j=>?_⟩
            simp only[b4,Bool.true_and]
            rw[getD_set,h3]
            by_cases hj:c.frm.toNat * 8+c.slot.toNat=j
            . rw[decide_eq_true hj,Bool.true_or,if_pos rfl]
              by_cases hl:c.frm.toNat * 8+c.slot.toNat < r2.length
              . rw[if_pos ⟨hj,hl⟩]
              . rw[if_neg (fun h=>hl h.2),getD_past o j (by omega)]
                split <;> rfl
            . rw[decide_eq_false hj,Bool.false_or,if_neg (fun h=>hj h.1)]
          . have b4:(c.kind == 4 || decide (7≤c.kind))=false:=by simp;omega
            unfold dropC
            rw[if_neg k2,if_neg k3,if_neg k5,if_neg hc,if_neg k4]
            exact⟨by simp,h2,fun j=>by rw[h3];simp[b4]⟩
def pairO (o:List Int)(base:Nat)(c:Cm):List Int:=[o.getD (base+2 * c.slot.toNat) 0,o.getD (base+2 * c.slot.toNat+1) 0]
def keptO (o:List Int)(base:Nat)(l:List Cm):List Int:=(l.filter (fun c=>c.good)).flatMap (pairO o base)
theorem keptO_length (o:List Int)(base:Nat)(l:List Cm):(keptO o base l).length=2 * (l.filter (fun c=>c.good)).length:=pairs_length _ (fun _=>rfl) _
theorem drops_shots (base M:Nat)(h:Hd)(o:List Int)(hb:h.shots.toNat * 8=base)(hm:h.many=(M:Int))(ho:base+2 * M≤o.length) :
    ∀ (l:List Cm) (k:Nat),(∀ i (hi:i < l.length),l[i].kind=6∧l[i].slot=((k+i:Nat):Int))→k+l.length=M →
      (dropsC (l.filter (fun c=>!c.good)) (h,o)).1={ h with many:=((k+(l.filter (fun c=>c.good)).length:Nat):Int) }∧(dropsC (l.filter (fun c=>!c.good)) (h,o)).2.length=o.length ∧
      ∀ j,(dropsC (l.filter (fun c=>!c.good)) (h,o)).2.getD j 0=if base+2 * k≤j∧j < base+2 * M then (keptO o base l).getD (j - base - 2 * k) 0 else o.getD j 0
  | [],k,_,hk=>by
    simp only[List.length_nil,Nat.add_zero] at hk
    subst hk
    refine⟨by simp[dropsC,← hm],rfl,fun j=>?_⟩
    rw[if_neg (by omega)]
    rfl
  | c :: l,k,hl,hk=>by
    rw[List.length_cons] at hk
    obtain⟨h1,h2,h3⟩:=drops_shots base M h o hb hm ho l (k+1) (fun i hi=>by
      have:=hl (i+1) (by simp;omega)
      simp only[List.getElem_cons_succ] at this
      exact⟨this.1,by rw[this.2];congr 1;omega⟩) (by omega)
    have h0:=hl 0 (by simp)
    simp only[List.getElem_cons_zero,Nat.add_zero] at h0
    have hlen:=keptO_length o base l
    cases hg:c.good
    . have e1:(c :: l).filter (fun c=>!c.good)=c :: l.filter (fun c=>!c.good):=List.filter_cons_of_pos (by simp[hg])
      have e2:(c :: l).filter (fun c=>c.good)=l.filter (fun c=>c.good):=List.filter_cons_of_neg (by simp[hg])
      have e3:keptO o base (c :: l)=keptO o base l:=by unfold keptO;rw[e2]
      have e4:dropsC (c :: l.filter (fun c=>!c.good)) (h,o)=dropC c (dropsC (l.filter (fun c=>!c.good)) (h,o)):=rfl
      rw[e1,e2,e3,e4]
      generalize dropsC (l.filter (fun c=>!c.good)) (h,o)=r at *
      obtain⟨r1,r2⟩:=r
      simp only at h1 h2 h3
      subst h1
      have hfl:=List.length_filter_le (fun c:Cm=>c.good) l
      generalize (l.filter (fun c=>c.good)).length=q at *
      have e5:dropC c (({ h with many:=((k+1+q:Nat):Int) }:Hd),r2)=({ h with many:=((k+1+q:Nat):Int) - 1 },leaveL base (k+1+q) k r2):=by
        unfold dropC
        rw[if_neg (by omega),if_neg (by omega),if_neg (by omega),if_pos h0.1,h0.2]
        simp only[Int.toNat_natCast,hb]
      rw[e5]
      refine⟨?_,?_,fun j=>?_⟩
      . simp only
        congr 1
        omega
      . exact(leaveL_length (by omega) (by omega)).trans h2
      . simp only
        rw[leaveL_get (by omega) (by omega),h3,h3]
        by_cases c1:base+2 * k≤j∧j < base+2 * (k+1+q) - 2
        . rw[if_pos c1,if_pos (by omega),if_pos (by omega)]
          congr 1
          omega
        . rw[if_neg c1]
          by_cases c2:base+2 * (k+1+q) - 2≤j∧j < base+2 * (k+1+q)
          . rw[if_pos c2,if_pos (by omega),getD_past _ _ (by omega)]
          . rw[if_neg c2]
            by_cases c3:base+2 * k≤j∧j < base+2 * M
            . rw[if_pos c3,if_pos (by omega),getD_past _ _ (by omega),getD_past _ _ (by omega)]
            . rw[if_neg c3,if_neg (by omega)]
    . have e1:(c :: l).filter (fun c=>!c.good)=l.filter (fun c=>!c.good):=List.filter_cons_of_neg (by simp[hg])
      have e2:(c :: l).filter (fun c=>c.good)=c :: l.filter (fun c=>c.good):=List.filter_cons_of_pos hg
      have e3:keptO o base (c :: l)=pairO o base c++keptO o base l:=by unfold keptO;rw[e2,List.flatMap_cons]
      rw[e1,e2,e3,List.length_cons]
      refine⟨?_,h2,fun j=>?_⟩
      . rw[h1]
        congr 2 <;> omega
      . rw[h3,List.getD_eq_getElem?_getD (l:=_++_),List.getElem?_append]
        have e6:(pairO o base c).length=2:=rfl
        rw[e6]
        by_cases c3:base+2 * (k+1)≤j∧j < base+2 * M
        . rw[if_pos c3,if_pos (by omega),if_neg (by omega),List.getD_eq_getElem?_getD]
          congr 2 <;> omega
        . rw[if_neg c3]
          by_cases c4:base+2 * k≤j∧j < base+2 * M
          . rw[if_pos c4,if_pos (by omega)]
            unfold pairO
            rw[h0.2,Int.toNat_natCast]
            rcases (show j=base+2 * k∨j=base+2 * k+1 by omega) with e | e
            . rw[e,show base+2 * k - base - 2 * k=0 by omega];rfl
            . rw[e,show base+2 * k+1 - base - 2 * k=1 by omega];rfl
          . rw[if_neg c4]
structure Split (b:List Int) (A F B:List Cm):Prop where
  all:claimsC b=A++(F++B)
  low:∀ c ∈ A,c.kind≤5
  high:∀ c ∈ B,c.kind=7∨c.kind=8
  mid:∀ i (hi:i < F.length),F[i].kind=6∧F[i].slot=(i:Int)
  case:(F=[]∧keepC b=[]∧shotsOk (claimsC b)=false∧((headOf b).many=0∨∃ c ∈ A,c.kind=5∧c.good=false)) ∨
    (shotsOk (claimsC b)=true∧(∀ c ∈ A,c.kind=5→c.good=true)∧F.length=(headOf b).many.toNat∧keepC b=F.filter (fun c=>c.good))
theorem c3_none6 (b:List Int):(c3C b (headOf b)).filter (fun c=>c.kind == 6 && c.good)=[]:=by
  rw[List.filter_eq_nil_iff]
  intro c hc
  have:=c3_kind b _ c hc
  simp
  intro h
  omega
theorem c3_none5 (b:List Int):(c3C b (headOf b)).any (fun c=>c.good && c.kind == 5)=false:=by
  rw[List.any_eq_false]
  intro c hc
  have:=c3_kind b _ c hc
  simp
  intro _ h
  omega
theorem claim_split {b:List Int}(hh:hasHead b=true):∃ A F B,Split b A F B:=by
  obtain⟨J3,J4,J5,J6,P⟩:=claims_parts b
  have hB:∀ c ∈ J5++J6,c.kind=7∨c.kind=8:=by
    intro c hc
    rw[List.mem_append] at hc
    rcases hc with h | h
    . obtain⟨d,_,h,_⟩:=P.of5 h;exact .inl h
    . obtain⟨d,_,h,_⟩:=P.of6 h;exact .inr h
  have h3:=c3_kind b (headOf b)
  have h5B:(J5++J6).any (fun c=>c.good && c.kind == 5)=false:=by
    rw[List.any_eq_false]
    intro c hc
    have:=hB c hc
    simp
    intro _ h
    omega
  have hall:claimsC b=c3C b (headOf b)++(J4++(J5++J6)):=by rw[P.c6,P.c5,P.c4];simp
  have hkc:keepC b=J4.filter (fun c=>c.kind == 6 && c.good):=by
    unfold keepC
    rw[P.c4,List.filter_append,c3_none6,List.nil_append]
  have hso:shotsOk (claimsC b)=J4.any (fun c=>c.good && c.kind == 5):=by
    unfold shotsOk
    rw[hall,List.any_append,List.any_append,c3_none5,h5B,Bool.false_or,Bool.or_false]
  rcases P.e4 with ⟨g,h1,h2⟩ | h1 | ⟨J,h1,h2⟩
  . subst h2
    refine⟨c3C b (headOf b)++[⟨5,0,0,0,(headOf b).shots,false⟩],[],J5++J6,by rw[hall,h1];simp,?_,hB,fun i hi=>by simp at hi,.inl ⟨rfl,by rw[hkc,h1];rfl,by rw[hso,h1];rfl,.inr ⟨⟨5,0,0,0,(headOf b).shots,false⟩,by simp,rfl,rfl⟩⟩⟩
    intro c hc
    rw[List.mem_append,List.mem_singleton] at hc
    rcases hc with h | h
    . have:=h3 c h;omega
    . subst h;exact Int.le_refl _
  . refine⟨c3C b (headOf b),[],J5++J6,by rw[hall,h1],fun c hc=>by have:=h3 c hc;omega,hB,fun i hi=>by simp at hi,.inl ⟨rfl,by rw[hkc,h1];rfl,by rw[hso,h1];rfl,.inl ?_⟩⟩
    by_cases hm:(headOf b).many=0
    . exact hm
    . exfalso
      have e:=P.c4
      rw[h1,List.append_nil] at e
      have hm5:∃ c ∈ c4C b (headOf b),c.kind=5:=by
        unfold c4C shotsC
        rw[if_neg hm]
        split
        . exact⟨⟨5,0,0,0,(headOf b).shots,_⟩,(shotFold_prefix _ _ _ _).subset (by unfold addC;simp;exact .inr rfl),rfl⟩
        . exact⟨⟨5,0,0,0,(headOf b).shots,_⟩,by unfold addC;simp;exact .inr rfl,rfl⟩
      obtain⟨c,hc,hk⟩:=hm5
      rw[e] at hc
      have:=h3 c hc
      omega
  . have h5:(⟨5,0,0,0,(headOf b).shots,true⟩:Cm) ∈ claimsC b:=by rw[hall,h1];simp
    have hlen:J.length=(shotsL b).length:=by
      have h3:=congrArg List.length h2
      rw[List.length_map,List.length_map] at h3
      have h4:(shotT (headOf b) (shotsL b)).length=(shotsL b).length:=by unfold shotT;simp
      omega
    have hJ:∀ i (hi:i < J.length),J[i].kind=6∧J[i].slot=(i:Int):=by
      intro i hi
      have e:(J.map erC)[i]'(by simpa using hi)=((shotT (headOf b) (shotsL b)).map erC)[i]'(by rw[← h2];simpa using hi):=by simp only[h2]
      rw[List.getElem_map,List.getElem_map] at e
      obtain⟨k1,_,k3,_,_⟩:=er_eq e.symm
      unfold shotT at k1 k3
      rw[List.getElem_map,List.getElem_range] at k1 k3
      exact⟨k1,k3⟩
    have hJm:∀ c ∈ J,c.kind=6:=by
      intro c hc
      obtain⟨i,hi,rfl⟩:=List.mem_iff_getElem.1 hc
      exact(hJ i hi).1
    refine⟨c3C b (headOf b)++[⟨5,0,0,0,(headOf b).shots,true⟩],J,J5++J6,by rw[hall,h1];simp,?_,hB,hJ,.inr ⟨by rw[hso,h1];rfl,?_,?_,?_⟩⟩
    . intro c hc
      rw[List.mem_append,List.mem_singleton] at hc
      rcases hc with h | h
      . have:=h3 c h;omega
      . subst h;exact Int.le_refl _
    . intro c hc hk
      rw[List.mem_append,List.mem_singleton] at hc
      rcases hc with h | h
      . have:=h3 c h;omega
      . subst h;rfl
    . rw[hlen,shots_len hh h5];simp
    . rw[hkc,h1,List.filter_cons_of_neg (by simp)]
      refine List.filter_congr (fun c hc=>?_)
      rw[hJm c hc]
      simp
theorem loose_split {b:List Int}(hh:hasHead b=true){A F B:List Cm}(S:Split b A F B):looseL b=A.filter (fun c=>!c.good)++(F.filter (fun c=>!c.good)++B.filter (fun c=>!c.good)):=by
  unfold looseL claimsL
  rw[if_pos hh,S.all,List.filter_append,List.filter_append]
theorem ext_gets {xs ys:List Int}(hl:xs.length=ys.length)(h:∀ j,xs.getD j 0=ys.getD j 0):xs=ys:=by
  refine List.ext_getElem hl (fun j h1 h2=>?_)
  have:=h j
  rw[List.getD_eq_getElem?_getD,List.getD_eq_getElem?_getD,List.getElem?_eq_getElem h1,List.getElem?_eq_getElem h2] at this
  exact this
theorem any_loose (l:List Cm)(p:Cm→Bool):(l.filter (fun c=>!c.good)).any p=l.any (fun c=>!c.good && p c):=by
  induction l with
  | nil=>rfl
  | cons c l ih =>
    cases hg:c.good
    . rw[List.filter_cons_of_pos (by simp[hg]),List.any_cons,List.any_cons,ih,hg];rfl
    . rw[List.filter_cons_of_neg (by simp[hg]),List.any_cons,ih,hg];rfl
theorem off_table {b:List Int}(hh:hasHead b=true)(hs:shotsOk (claimsC b)=true){c:Cm}(hc:c ∈ claimsC b)(hk:c.kind=4∨c.kind=7∨c.kind=8){j:Nat}(h1:(headOf b).shots.toNat * 8≤j)(h2:j < (headOf b).shots.toNat * 8+2 * (headOf b).many.toNat):c.frm.toNat * 8+c.slot.toNat≠j:=by
  intro e
  obtain⟨d,hd,hdk⟩:=claim_tab hc hk
  have ht:=there_lt hd.there
  have h0:=hd.slot0
  have h3:=hd.slot1
  have hf:=hd.frm
  have hm:=(headB_all (hasHead_ok hh)).2.2.2.2
  have hk2:d.kind=2∨d.kind=3∨d.kind=6∨d.kind=7:=by omega
  have hne:=tab_shots hd.mem hd.good hk2 hs
  have ht5:=there_lt (good_there (shots_ok.1 hs) rfl (by simp))
  simp only at ht5
  omega
theorem cl_at (xs:List Int)(a j:Nat)(h:j < 8):(cl xs a).getD j 0=xs.getD (a * 8+j) 0:=by unfold cl;rw[f8_get _ j h]
theorem drops_all {b:List Int}(hh:hasHead b=true):endHead (dropsC (looseL b) (headOf b,whole b)).1=clrHead b∧(dropsC (looseL b) (headOf b,whole b)).2=clr2 b:=by
  obtain⟨A,F,B,S⟩:=claim_split hh
  rw[loose_split hh S,drops_append,drops_append]
  have hm:=(headB_all (hasHead_ok hh)).2.2.2.2
  have kA:∀ c ∈ A.filter (fun c=>!c.good),c.kind≠6:=fun c hc=>by have:=S.low c ((List.mem_filter.1 hc).1);omega
  have kB:∀ c ∈ B.filter (fun c=>!c.good),c.kind≠6:=fun c hc=>by have:=S.high c ((List.mem_filter.1 hc).1);omega
  have nB:∀ q:Int,q < 7→(B.filter (fun c=>!c.good)).any (fun c=>c.kind == q)=false:=by
    intro q hq
    rw[List.any_eq_false]
    intro c hc
    have:=S.high c ((List.mem_filter.1 hc).1)
    simp
    omega
  obtain⟨b1,b2,b3⟩:=drops_plain (B.filter (fun c=>!c.good)) (headOf b) (whole b) kB
  rw[nB 2 (by omega),nB 3 (by omega),nB 5 (by omega)] at b1
  have b1':(dropsC (B.filter (fun c=>!c.good)) (headOf b,whole b)).1=headOf b:=by rw[b1];simp
  generalize dropsC (B.filter (fun c=>!c.good)) (headOf b,whole b)=rB at *
  obtain⟨hB,oB⟩:=rB
  simp only at b1' b2 b3
  subst b1'
  clear b1
  -- which loose claims have a word
  have hany : ∀ (j : Nat), (claimsC b).any (fun c => lzB c && decide (c.frm.toNat * 8 + c.slot.toNat = j)) =
      ((A.filter (fun c=>!c.good)).any (fun c=>(c.kind == 4 || decide (7≤c.kind)) && decide (c.frm.toNat * 8+c.slot.toNat=j)) || (B.filter (fun c=>!c.good)).any (fun c=>(c.kind == 4 || decide (7≤c.kind)) && decide (c.frm.toNat * 8+c.slot.toNat=j))):=by
    intro j
    have eF:F.any (fun c=>lzB c && decide (c.frm.toNat * 8+c.slot.toNat=j))=false:=by
      rw[List.any_eq_false]
      intro c hc
      obtain⟨i,hi,rfl⟩:=List.mem_iff_getElem.1 hc
      have:=(S.mid i hi).1
      unfold lzB
      rw[this]
      simp
    rw[S.all,List.any_append,List.any_append,eF,Bool.false_or,any_loose,any_loose]
    congr 1 <;> (congr 1;funext c;unfold lzB;rw[Bool.and_assoc])
  have hkind:∀ q:Int,q≤5→(claimsC b).any (fun c=>!c.good && c.kind == q)=(A.filter (fun c=>!c.good)).any (fun c=>c.kind == q):=by
    intro q hq
    have eF:F.any (fun c=>!c.good && c.kind == q)=false:=by
      rw[List.any_eq_false]
      intro c hc
      obtain⟨i,hi,rfl⟩:=List.mem_iff_getElem.1 hc
      have:=(S.mid i hi).1
      rw[this]
      simp
      omega
    have eB:B.any (fun c=>!c.good && c.kind == q)=false:=by
      have:=nB q (by omega)
      rw[any_loose] at this
      exact this
    rw[S.all,List.any_append,List.any_append,eF,eB,any_loose,Bool.or_false,Bool.or_false]
  have hl:(clr2 b).length=(whole b).length:=by
    rw[whole_length,clr2_length hh]
  have hkl:=keepW_length b
  rcases S.case with ⟨f0,k0,s0,hmz⟩ | ⟨s1,a5,fl,kf⟩
  . subst f0
    rw[List.filter_nil]
    show endHead (dropsC (A.filter (fun c=>!c.good)) (headOf b,oB)).1=_∧(dropsC (A.filter (fun c=>!c.good)) (headOf b,oB)).2=_
    obtain⟨a1,a2,a3⟩:=drops_plain (A.filter (fun c=>!c.good)) (headOf b) oB kA
    refine⟨?_,ext_gets (by rw[a2,b2,hl]) (fun j=>?_)⟩
    · have hm0 : (if (A.filter (fun c => !c.good)).any (fun c => c.kind == 5) = true then 0 else (headOf b).many) = 0 := by
        rcases hmz with h | ⟨c,hc,h5,hg⟩
        . rw[h];split <;> rfl
        . rw[if_pos]
          rw[List.any_eq_true]
          exact⟨c,List.mem_filter.2 ⟨hc,by simp[hg]⟩,by simp[h5]⟩
      rw[a1,hm0]
      unfold endHead clrHead
      rw[if_pos rfl,hkl,k0,hkind 2 (by omega),hkind 3 (by omega)]
      rfl
    . have e1:=clr1_get hh j
      rw[s0,if_neg (fun h=>Bool.false_ne_true h.1)] at e1
      unfold clr2
      rw[a3,b3,clr_get,hany,e1,whole_get]
      generalize (A.filter (fun c=>!c.good)).any _=p
      generalize (B.filter (fun c=>!c.good)).any _=q
      cases p <;> cases q <;> rfl
  . have h5:=shots_ok.1 s1
    have ht5:=there_lt (good_there h5 rfl (by simp))
    simp only at ht5
    have hn:=whole_length b
    obtain⟨f1,f2,f3⟩:=drops_shots ((headOf b).shots.toNat * 8) (headOf b).many.toNat (headOf b) oB rfl (by omega) (by rw[b2,hn];omega) F 0 (fun i hi=>by rw[Nat.zero_add];exact S.mid i hi) (by omega)
    rw[Nat.zero_add,← kf] at f1
    generalize dropsC (F.filter (fun c=>!c.good)) (headOf b,oB)=rF at *
    obtain⟨hF,oF⟩:=rF
    simp only at f1 f2 f3
    subst f1
    obtain⟨a1,a2,a3⟩:=drops_plain (A.filter (fun c=>!c.good)) ({ headOf b with many:=((keepC b).length:Int) }) oF kA
    have n5:(A.filter (fun c=>!c.good)).any (fun c=>c.kind == 5)=false:=by
      rw[List.any_eq_false]
      intro c hc
      rw[List.mem_filter] at hc
      intro h
      have:=a5 c hc.1 (by simpa using h)
      rw[this] at hc
      simp at hc
    have offB:∀ j,(headOf b).shots.toNat * 8≤j→j < (headOf b).shots.toNat * 8+2 * (headOf b).many.toNat→(claimsC b).any (fun c=>lzB c && decide (c.frm.toNat * 8+c.slot.toNat=j))=false:=by
      intro j h1 h2
      rw[List.any_eq_false]
      intro c hc h
      unfold lzB at h
      simp at h
      have hk8:=(claims_ok b c hc).kind1
      exact off_table hh s1 hc (by omega) h1 h2 h.2
    have oBt:∀ j,(headOf b).shots.toNat * 8≤j→j < (headOf b).shots.toNat * 8+2 * (headOf b).many.toNat→oB.getD j 0=b.getD j 0:=by
      intro j h1 h2
      have h3:=offB j h1 h2
      rw[hany,Bool.or_eq_false_iff] at h3
      rw[b3,h3.2,if_neg (by simp),whole_get]
    have hkw:keptO oB ((headOf b).shots.toNat * 8) F=keepW b:=by
      rw[keepW_flat,kf]
      unfold keptO
      rw[List.flatMap_def,List.flatMap_def]
      refine congrArg List.flatten (List.map_congr_left (fun c hc=>?_))
      obtain⟨i,hi,rfl⟩:=List.mem_iff_getElem.1 ((List.mem_filter.1 hc).1)
      have hsl:=(S.mid i hi).2
      unfold pairO pairW
      rw[hsl,Int.toNat_natCast,shots_len hh h5,List.getD_eq_getElem?_getD (l:=(List.range _).map _),List.getElem?_map,List.getElem?_range (by omega)]
      simp only[Option.map_some,Option.getD_some]
      rw[cl_at b _ _ (by omega),cl_at b _ _ (by omega),oBt _ (by omega) (by omega),oBt _ (by omega) (by omega),Nat.add_assoc]
    refine⟨?_,ext_gets (by rw[a2,f2,b2,hl]) (fun j=>?_)⟩
    . rw[a1,n5,if_neg Bool.false_ne_true]
      unfold endHead clrHead
      rw[hkl,hkind 2 (by omega),hkind 3 (by omega),show 2 * (keepC b).length / 2=(keepC b).length by omega]
      simp only
      by_cases h0:(keepC b).length=0
      . rw[if_pos (by omega),if_pos h0]
      . rw[if_neg (by omega),if_neg h0]
    . unfold clr2
      rw[a3,f3,clr_get,clr1_get hh,hkw,hany,s1]
      have hoff:=offB j
      rw[hany,Bool.or_eq_false_iff] at hoff
      have hbj:=b3 j
      rw[whole_get] at hbj
      have hmm:(2 * (headOf b).many).toNat=2 * (headOf b).many.toNat:=by omega
      rw[hmm]
      simp only[Nat.mul_zero,Nat.add_zero,Nat.sub_zero,true_and]
      by_cases hj:(headOf b).shots.toNat * 8≤j∧j < (headOf b).shots.toNat * 8+2 * (headOf b).many.toNat
      . obtain⟨h1,h2⟩:=hoff hj.1 hj.2
        rw[h1,h2,if_pos hj,if_pos hj]
        rfl
      . rw[if_neg hj,if_neg hj,hbj]
        generalize (A.filter (fun c=>!c.good)).any _=p
        generalize (B.filter (fun c=>!c.good)).any _=q
        cases p <;> cases q <;> rfl
structure DropOk (n:Nat) (h:Hd) (c:Cm):Prop where
  shot:c.kind=6→0≤c.slot∧c.slot < h.many∧h.many≤4∧1≤h.shots∧h.shots≤64∧h.shots.toNat * 8+8≤n
  word:c.kind=4∨7≤c.kind→1≤c.frm∧c.frm≤64∧0≤c.slot∧c.slot < 8∧c.frm.toNat * 8+c.slot.toNat < n
  kind0:1≤c.kind
  kind1:c.kind≤8
theorem drops_size:∀ (t:List Cm) (s:Hd × List Int),(dropsC t s).1.size=s.1.size∧(dropsC t s).1.shots=s.1.shots
  | [],_=>⟨rfl,rfl⟩
  | c :: t,s=>by
    obtain⟨h1,h2⟩:=drops_size t s
    have e:dropsC (c :: t) s=dropC c (dropsC t s):=rfl
    rw[e]
    unfold dropC
    split
    . exact⟨h1,h2⟩
    . split
      . exact⟨h1,h2⟩
      . split
        . exact⟨h1,h2⟩
        . split
          . exact⟨h1,h2⟩
          . split <;> exact⟨h1,h2⟩
theorem drops_many:∀ (t:List Cm) (s:Hd × List Int),(∀ c ∈ t,c.kind≠5)→(dropsC t s).1.many=s.1.many - ((t.filter (fun c=>c.kind == 6)).length:Int)
  | [],s,_=>by simp[dropsC]
  | c :: t,s,h5=>by
    have h1:=drops_many t s (fun d hd=>h5 d (by simp[hd]))
    have hc:=h5 c (by simp)
    have e:dropsC (c :: t) s=dropC c (dropsC t s):=rfl
    rw[e]
    by_cases h6:c.kind=6
    . rw[List.filter_cons_of_pos (by simp[h6])]
      unfold dropC
      rw[if_neg (by omega),if_neg (by omega),if_neg hc,if_pos h6]
      simp only[List.length_cons]
      omega
    . rw[List.filter_cons_of_neg (by simp[h6]),← h1]
      unfold dropC
      split
      . rfl
      . split
        . rfl
        . split <;> rfl
theorem rising_few:∀ (l:List Cm) (s M:Int),s < M→l.Pairwise (fun c d=>c.slot < d.slot)→(∀ c ∈ l,s < c.slot∧c.slot < M)→s+(l.length:Int) < M
  | [],s,M,h,_,_=>by simpa using h
  | c :: l,s,M,h,hp,hm=>by
    rw[List.pairwise_cons] at hp
    have hc:=hm c (by simp)
    have:=rising_few l c.slot M hc.2 hp.2 (fun d hd=>⟨hp.1 d hd,(hm d (by simp[hd])).2⟩)
    rw[List.length_cons]
    omega
theorem drops_ok {b:List Int}(hh:hasHead b=true){L t:List Cm}{c:Cm}(e:looseL b=L++c :: t):DropOk (manyN b * 8) (dropsC t (headOf b,whole b)).1 c:=by
  have hcl:claimsL b=claimsC b:=by unfold claimsL;rw[if_pos hh]
  have hml:∀ d ∈ looseL b,d ∈ claimsC b:=fun d hd=>by unfold looseL at hd;rw[hcl] at hd;exact(List.mem_filter.1 hd).1
  have hc:c ∈ claimsC b:=hml c (by rw[e];simp)
  have ok:=claims_ok b c hc
  have hmm:=manyN_le (hasHead_img hh)
  refine⟨fun h6=>?_,fun h4=>?_,ok.kind0,ok.kind1⟩
  . obtain⟨A,F,B,S⟩:=claim_split hh
    have hm:=(headB_all (hasHead_ok hh)).2.2.2.2
    have hcF:c ∈ F:=by
      rw[S.all,List.mem_append,List.mem_append] at hc
      rcases hc with h | h | h
      . have:=S.low c h;omega
      . exact h
      . have:=S.high c h;omega
    rcases S.case with ⟨f0,_⟩ | ⟨s1,a5,fl,kf⟩
    . rw[f0] at hcF;cases hcF
    have ht5:=there_lt (good_there (shots_ok.1 s1) rfl (by simp))
    simp only at ht5
    have hsl:=(drops_size t (headOf b,whole b)).2
    simp only at hsl
    have h5:∀ d ∈ t,d.kind≠5:=by
      intro d hd hk
      have hdl:d ∈ looseL b:=by rw[e];simp[hd]
      have hdg:d.good=false:=by unfold looseL at hdl;rw[List.mem_filter] at hdl;simpa using hdl.2
      have hdc:=hml d hdl
      rw[S.all,List.mem_append,List.mem_append] at hdc
      rcases hdc with h | h | h
      . rw[a5 d h hk] at hdg;cases hdg
      . obtain⟨i,hi,rfl⟩:=List.mem_iff_getElem.1 h
        have:=(S.mid i hi).1;omega
      . have:=S.high d h;omega
    have hmn:=drops_many t (headOf b,whole b) h5
    simp only at hmn
    -- the slots of the Shots' claims rise
    have hF6:(looseL b).filter (fun c=>c.kind == 6)=F.filter (fun c=>!c.good):=by
      rw[loose_split hh S,List.filter_append,List.filter_append]
      have e1:(A.filter (fun c=>!c.good)).filter (fun c=>c.kind == 6)=[]:=by
        rw[List.filter_eq_nil_iff]
        intro d hd
        have:=S.low d ((List.mem_filter.1 hd).1)
        simp
        omega
      have e2:(B.filter (fun c=>!c.good)).filter (fun c=>c.kind == 6)=[]:=by
        rw[List.filter_eq_nil_iff]
        intro d hd
        have:=S.high d ((List.mem_filter.1 hd).1)
        simp
        omega
      have e3:(F.filter (fun c=>!c.good)).filter (fun c=>c.kind == 6)=F.filter (fun c=>!c.good):=by
        rw[List.filter_eq_self]
        intro d hd
        obtain⟨i,hi,rfl⟩:=List.mem_iff_getElem.1 ((List.mem_filter.1 hd).1)
        simp[(S.mid i hi).1]
      rw[e1,e2,e3]
      simp
    have hpF:F.Pairwise (fun c d=>c.slot < d.slot):=by
      rw[List.pairwise_iff_getElem]
      intro i j hi hj hij
      rw[(S.mid i hi).2,(S.mid j hj).2]
      omega
    have hp6:((looseL b).filter (fun c=>c.kind == 6)).Pairwise (fun c d=>c.slot < d.slot):=by rw[hF6];exact hpF.filter _
    rw[e,List.filter_append,List.filter_cons_of_pos (by simp[h6]),List.pairwise_append,List.pairwise_cons] at hp6
    have hin:∀ d ∈ t.filter (fun c=>c.kind == 6),d.slot < (F.length:Int):=by
      intro d hd
      have:d ∈ F.filter (fun c=>!c.good):=by
        rw[← hF6,e,List.filter_append,List.filter_cons_of_pos (by simp[h6])]
        simp only[List.mem_append,List.mem_cons]
        exact .inr (.inr hd)
      obtain⟨i,hi,rfl⟩:=List.mem_iff_getElem.1 ((List.mem_filter.1 this).1)
      rw[(S.mid i hi).2]
      omega
    have hcs:c.slot < (F.length:Int):=by
      obtain⟨i,hi,rfl⟩:=List.mem_iff_getElem.1 hcF
      rw[(S.mid i hi).2]
      omega
    have hfew:=rising_few (t.filter (fun c=>c.kind == 6)) c.slot (F.length:Int) hcs hp6.2.1.2 (fun d hd=>⟨hp6.2.1.1 d hd,hin d hd⟩)
    have h0:=ok.slot0
    rw[hsl,hmn]
    refine⟨h0,by omega,by omega,by omega,by omega,by omega⟩
  . have hk8:=ok.kind1
    obtain⟨d,hd,_⟩:=claim_tab hc (by omega)
    have ht:=there_lt hd.there
    have h0:=hd.slot0
    have h1:=hd.slot1
    have hf:=hd.frm
    exact⟨by omega,by omega,h0,h1,by omega⟩
structure ImAt (W:World) (p q:Nat) (h:Hd) (os:List Int):Prop where
  box:W.heap[p]?=some (.cells #[.int .i64 h.size,.int .i64 h.first,.int .i64 h.refs,.int .i64 h.shots,.int .i64 h.many,.slice (some ⟨q,0,none⟩) os.length os.length] 125 (0,0))
  row:W.heap[q]?=some (.cells (iv os).toArray 2 (0,0))
  ne:p≠q
section
variable {W W':World} {p q:Nat} {h:Hd} {os:List Int}
theorem ImAt.cell (H:ImAt W p q h os)(j:Nat):W.cell? ⟨p,j,none⟩=(#[.int .i64 h.size,.int .i64 h.first,.int .i64 h.refs,.int .i64 h.shots,.int .i64 h.many,.slice (some ⟨q,0,none⟩) os.length os.length]:Array Value)[j]?:=cell_of_row W p j _ _ _ H.box
theorem ImAt.free (H:ImAt W p q h os)(j:Nat):W.frozen? ⟨p,j,none⟩=false:=frozen_of_row W p j _ _ H.box
theorem ImAt.ltp (H:ImAt W p q h os):p < W.heap.size:=(Array.getElem?_eq_some_iff.1 H.box).1
theorem ImAt.ltq (H:ImAt W p q h os):q < W.heap.size:=(Array.getElem?_eq_some_iff.1 H.row).1
theorem ImAt.keep (H:ImAt W p q h os)(hp:W'.heap[p]?=W.heap[p]?)(hq:W'.heap[q]?=W.heap[q]?):ImAt W' p q h os:=⟨hp.trans H.box,hq.trans H.row,H.ne⟩
theorem ImAt.below (H:ImAt W p q h os)(b:Below W.heap.size W W'):ImAt W' p q h os:=H.keep (b.block p H.ltp) (b.block q H.ltq)
theorem ImAt.word (H:ImAt W p q h os){j:Nat}(hj:j < os.length):W.cell? ⟨q,j,none⟩=some (.int .i64 (os.getD j 0)):=by
  rw[cell_of_row W q j _ _ _ H.row,List.getElem?_toArray,iv_get os j hj]
theorem ImAt.freeq (H:ImAt W p q h os)(j:Nat):W.frozen? ⟨q,j,none⟩=false:=frozen_of_row W q j _ _ H.row
theorem ImAt.putq (H:ImAt W p q h os)(j:Nat)(x:Int):ImAt (W.setCell ⟨q,j,none⟩ (.int .i64 x)) p q h (os.set j x):=by
  refine⟨?_,?_,H.ne⟩
  . rw[List.length_set]
    exact(Below.heap_setCell _ _ _ _ H.ne).trans H.box
  . simp only[World.setCell,Array.getElem?_modify]
    simp[H.row,← iv_set]
theorem ImAt.putp (H:ImAt W p q h os)(j:Nat)(v:Value)(h':Hd)(e:(#[.int .i64 h.size,.int .i64 h.first,.int .i64 h.refs,.int .i64 h.shots,.int .i64 h.many,.slice (some ⟨q,0,none⟩) os.length os.length]:Array Value).setIfInBounds j v=#[.int .i64 h'.size,.int .i64 h'.first,.int .i64 h'.refs,.int .i64 h'.shots,.int .i64 h'.many,.slice (some ⟨q,0,none⟩) os.length os.length]) :
    ImAt (W.setCell ⟨p,j,none⟩ v) p q h' os:=by
  refine⟨?_,(Below.heap_setCell _ _ _ _ (Ne.symm H.ne)).trans H.row,H.ne⟩
  rw[← e]
  simp only[World.setCell,Array.getElem?_modify]
  simp[H.box]
theorem ImAt.turn {os':List Int}(H:ImAt W p q h os)(hg:W.grownBy W' (some q))(hr:W'.heap[q]?=some (.cells (iv os').toArray 2 (0,0)))(hl:os'.length=os.length):ImAt W' p q h os' :=
  ⟨by rw[hl];exact(hg.block p H.ltp (fun e=>by injection e with e;exact H.ne e)).trans H.box,hr,H.ne⟩
end
theorem Grow2.grown {w w1 w2:World}{p q:Nat}(h:Grow2 w w1 p q)(g:w1.grownBy w2 (some q)):Grow2 w w2 p q :=
  ⟨g.os.trans h.os,g.tape.trans h.tape,g.output.trans h.output,Nat.le_trans h.size g.size,fun k h1 h2 h3=>(g.block k (Nat.lt_of_lt_of_le h1 h.size) (fun e=>by injection e with e;exact h3 e)).trans (h.block k h1 h2 h3)⟩
theorem ImAt.src {W:World}{p q:Nat}{h:Hd}{os:List Int}(H:ImAt W p q h os){o k:Nat}(hk:o+k≤os.length)(ad:Addr)(ha:0 < k→ad=⟨q,o,none⟩) :
    ∀ (j:Nat) (v:Value),(iv ((os.drop o).take k))[j]?=some v→W.cell? (ad.add j)=some v:=by
  intro j v hv
  have hj:=(List.getElem?_eq_some_iff.1 hv).1
  rw[iv_length] at hj
  simp at hj
  rw[iv_get _ j (by simp;omega)] at hv
  cases hv
  rw[ha (by omega)]
  have e:(⟨q,o,none⟩:Addr).add j=⟨q,o+j,none⟩:=by
    cases j <;> simp[Addr.add]
  rw[e,H.word (by omega),cut_get,if_pos (by omega)]
set_option maxRecDepth 100000 in
set_option maxHeartbeats 4000000 in
theorem leaveOut_any (p q τ μ σ:Nat)(s f r:Int)(os:List Int)(w:World)(H:ImAt w p q ⟨s,f,r,(τ:Int),(μ:Int)⟩ os)(hσ:σ < μ)(hμ:μ≤4)(h1:1≤τ)(h64:τ≤64)(ho:τ * 8+8≤os.length)(ho2:os.length≤512) :
    Calls Tryz.prog 175 #[.pointer (some ⟨p,0,none⟩),.int .i64 (σ:Int)] w fun e w'=>e=.returned (.tuple #[])∧ImAt w' p q ⟨s,f,r,(τ:Int),(μ:Int) - 1⟩ (leaveL (τ * 8) μ σ os)∧Grow2 w w' p q:=by
  obtain⟨i0,hi0,hz0,hz1,hz2⟩:=info_parts info2
  have p3:w.cell? ⟨p,3,none⟩=some (.int .i64 (τ:Int)):=H.cell 3
  have p4:w.cell? ⟨p,4,none⟩=some (.int .i64 (μ:Int)):=H.cell 4
  have p5:w.cell? ⟨p,5,none⟩=some (.slice (some ⟨q,0,none⟩) os.length os.length):=H.cell 5
  have n1:IntKind.i64.wrap ((τ:Int) * 8)=(τ:Int) * 8:=IntWalk.i64_in _ (by omega)
  have n2:IntKind.i64.wrap ((μ:Int) * 2)=(μ:Int) * 2:=IntWalk.i64_in _ (by omega)
  have HH:=Lib.hid H
  clear H
  obtain⟨N,hN⟩:∃ N,N=os.length:=⟨_,rfl⟩
  rw[← hN] at p5 ho ho2
  have HN:=Lib.hid hN
  clear hN
  go_enter Tryz.func175,Tryz.ntmps175
  go_wp2_with fail
  go_quiet ((go_at_call 90;exact(cutOf_any q 0 N N (τ * 8) (2 * μ) _ _ _ (by omega) (by omega) (by omega) (by omega) (by omega) (by omega) (by omega)).mono (fun _ _ h=>⟨h.1,_,h.2.symm⟩)))
  rw[show min (2 * μ) (N - τ * 8)=2 * μ by omega,Nat.zero_add]
  go_wp2_with fail
  clear p3 p4 p5 n1 n2
  have H1:Hid (ImAt (w.drewN nq) p q ⟨s,f,r,(τ:Int),(μ:Int)⟩ os):=⟨HH.out.box,HH.out.row,HH.out.ne⟩
  have G1:Hid (Grow2 w (w.drewN nq) p q):=⟨rfl,rfl,rfl,Nat.le_refl _,fun _ _ _ _=>rfl⟩
  generalize w.drewN nq=w1 at *
  have m1:IntKind.i64.wrap ((σ:Int) * 2)=(σ:Int) * 2:=IntWalk.i64_in _ (by omega)
  have m2:IntKind.i64.wrap ((σ:Int)+1)=(σ:Int)+1:=IntWalk.i64_in _ (by omega)
  have m3:IntKind.i64.wrap (((σ:Int)+1) * 2)=((σ:Int)+1) * 2:=IntWalk.i64_in _ (by omega)
  have t1:((σ:Int) * 2).toNat=2 * σ:=by omega
  have t2:(((σ:Int)+1) * 2).toNat=2 * σ+2:=by omega
  have k0:(0:Int)≤(σ:Int) * 2:=by omega
  have k3:(0:Int)≤((σ:Int)+1) * 2:=by omega
  obtain⟨M,hM⟩:∃ M,M=2 * μ:=⟨_,rfl⟩
  rw[← hM]
  have HM:=Lib.hid hM
  have k2:(σ:Int) * 2≤(M:Int):=by omega
  have k4:((σ:Int)+1) * 2≤(M:Int):=by omega
  have ne1:¬ (M=2 * σ):=by omega
  have hcl:((os.drop (τ * 8+2 * σ+2)).take (2 * μ - 2 * σ - 2)).length=2 * μ - 2 * σ - 2:=cut_len hσ (by have:=HN.out;omega)
  by_cases hl:M=2 * σ+2
  case' pos =>
    clear hM
    subst hl
    have k2':(σ:Int) * 2≤2 * (σ:Int)+2:=by omega
    have k4':((σ:Int)+1) * 2≤2 * (σ:Int)+2:=by omega
    go_region_law ((refine step_copy_block (by rfl) (.tmp 25) (.tmp 30) 24 24 (by rfl) 2 Tryz.underlying24 info2s q (τ * 8+2 * σ) ⟨q,τ * 8,none⟩ 2 2 0 0 (by kernel_rfl) (by kernel_rfl) (iv os) 2 H1.out.row (iv ((os.drop (τ * 8+2 * σ+2)).take (2 * μ - 2 * σ - 2))) (by rw[iv_length,hcl];show _=0;have:=HM.out;omega) (H1.out.src (by have:=HN.out;omega) _ (by have:=HM.out;omega)) (by rw[iv_length,iv_length,hcl];have:=HN.out;omega) (int_one _) ?_;intro w5 h5 g5))
    clear k2 k4 k2' k4' ne1
    generalize 2 * σ+2=M at HM ⊢
  case' neg =>
    clear hM
    go_region_law ((refine step_copy_block (by rfl) (.tmp 25) (.tmp 30) 24 24 (by rfl) 2 Tryz.underlying24 info2s q (τ * 8+2 * σ) ⟨q,τ * 8+(2 * σ+2),none⟩ (M - 2 * σ) (M - 2 * σ) (M - (2 * σ+2)) (M - (2 * σ+2)) (by kernel_rfl) (by kernel_rfl) (iv os) 2 H1.out.row (iv ((os.drop (τ * 8+2 * σ+2)).take (2 * μ - 2 * σ - 2))) (by rw[iv_length,hcl];exact Eq.trans (by have:=HM.out;omega) (Nat.min_eq_left (by omega)).symm) (H1.out.src (by have:=HN.out;omega) _ (fun _=>by rw[Nat.add_assoc])) (by rw[iv_length,iv_length,hcl];have:=HN.out;omega) (int_one _) ?_;intro w5 h5 g5))
    clear k2 k4 ne1 hl
  all_goals
    clear t1 t2 k0 k3 m1 m2 m3
    rw[iv_splice] at h5
    have G5:=Lib.hid (G1.out.grown (w2:=w5) ⟨g5.os,g5.tape,g5.output,g5.size,g5.block⟩)
    have H5:=Lib.hid (H1.out.turn (os':=leave1 (τ * 8) μ σ os) (W':=w5) ⟨g5.os,g5.tape,g5.output,g5.size,g5.block⟩ h5 (leave1_length hσ (by have:=HN.out;omega)))
    have p4:w5.cell? ⟨p,4,none⟩=some (.int .i64 (μ:Int)):=H5.out.cell 4
    have f4:w5.frozen? ⟨p,4,none⟩=false:=H5.out.free 4
    have HL:=Lib.hid (show (leave1 (τ * 8) μ σ os).length=N by rw[HN.out];exact leave1_length hσ (by have:=HN.out;omega))
    have HR:=Lib.hid H5.out.row
    have HM2:Hid (τ * 8+2 * μ - 2=τ * 8+(M - 2)):=by have:=HM.out;show _=_;omega
    have hM2:2≤M:=by have:=HM.out;omega
    have hM8:M≤8:=by have:=HM.out;omega
    have HLL:Hid (leaveL (τ * 8) μ σ os=Go.splice (leave1 (τ * 8) μ σ os) (τ * 8+(M - 2)) [0,0]):=by rw[← HM2.out];rfl
    clear g5 h5 hcl
    generalize leave1 (τ * 8) μ σ os=o1 at *
    go_wp2_with (
       with_reducible refine wpList_clear_block (o:=⟨none,_,_,_,_,_⟩) rfl (.tmp 36) 24 rfl 2 i0 Tryz.underlying24 hi0 hz0 q (τ * 8+(M - 2)) _ _ rfl (by omega) (iv o1) 2 HR.out (by rw[iv_length,HL.out];omega) ?_;intro w6 h6 g6
       rw[show M - (M - 2)=2 by omega] at h6
       have h6:w6.heap[q]?=some (.cells (Go.splice (iv o1) (τ * 8+(M - 2)) (iv [0,0])).toArray 2 (0,0)):=h6
       rw[iv_splice,← HLL.out] at h6
       have H6:=H5.out.turn g6 h6 (by rw[HL.out,HN.out];exact leaveL_length hσ (by have:=HN.out;omega))
       have G6:=Lib.hid (G5.out.grown g6)
       have q4:w6.cell? ⟨p,4,none⟩=some (.int .i64 (μ:Int)):=H6.cell 4
       have e4:w6.frozen? ⟨p,4,none⟩=false:=H6.free 4
       have HF:=Lib.hid (H6.putp 4 (.int .i64 ((μ:Int) - 1)) ⟨s,f,r,(τ:Int),(μ:Int) - 1⟩ rfl)
       have GF:=Lib.hid (G6.out.put 4 (.int .i64 ((μ:Int) - 1)))
       clear p4 f4 h6 g6 H6)
    go_end0
    exact⟨rfl,HF.out,GF.out⟩
theorem dropC_length {c:Cm}{h:Hd}{os:List Int}(ok:DropOk os.length h c):(dropC c (h,os)).2.length=os.length:=by
  unfold dropC
  split
  . rfl
  . split
    . rfl
    . split
      . rfl
      . split
        . rename_i h6
          obtain⟨s0,s1,m4,t1,t2,t3⟩:=ok.shot h6
          show (leaveL (h.shots.toNat * 8) h.many.toNat c.slot.toNat os).length=os.length
          exact leaveL_length (by omega) (by omega)
        . split
          . simp
          . rfl
theorem grownBy_cell (W:World)(b j:Nat)(v:Value):W.grownBy (W.setCell ⟨b,j,none⟩ v) (some b):=by
  refine⟨rfl,rfl,rfl,by simp[World.setCell],fun k hk hn=>?_⟩
  exact Below.heap_setCell _ _ _ _ (fun e=>hn (by rw[e]))
set_option maxRecDepth 100000 in
set_option maxHeartbeats 4000000 in
theorem drop_any (p q:Nat)(h:Hd)(os:List Int)(c:Cm)(w:World)(H:ImAt w p q h os)(ok:DropOk os.length h c)(ho2:os.length≤512) :
    Calls Tryz.prog 156 #[.pointer (some ⟨p,0,none⟩),.agg #[.int .i64 c.kind,.int .i64 c.frm,.int .i64 c.slot,.int .i64 c.place,.int .i64 c.target,.bool c.good]] w fun e w'=>e=.returned (.tuple #[])∧ImAt w' p q (dropC c (h,os)).1 (dropC c (h,os)).2∧Grow2 w w' p q:=by
  obtain⟨s,f,r,u,m⟩:=h
  obtain⟨ck,cf,cs,cp,ct,cg⟩:=c
  have hk0:=ok.kind0
  have hk1:=ok.kind1
  have HO:=Lib.hid ok
  simp only at hk0 hk1
  have b1:=(Below.refl w.heap.size w).alloc (Nat.le_refl _) (.cells #[.int .i64 ck,.int .i64 cf,.int .i64 cs,.int .i64 cp,.int .i64 ct,.bool cg] 36)
  have H1:=H.below b1
  have G1:=Lib.hid ((Grow2.refl w p q).below b1)
  have c0:(w.alloc (.cells #[.int .i64 ck,.int .i64 cf,.int .i64 cs,.int .i64 cp,.int .i64 ct,.bool cg] 36)).cell? ⟨w.heap.size,0,none⟩=some (.int .i64 ck):=by rw[World.cell?_alloc_new];rfl
  have c1:(w.alloc (.cells #[.int .i64 ck,.int .i64 cf,.int .i64 cs,.int .i64 cp,.int .i64 ct,.bool cg] 36)).cell? ⟨w.heap.size,1,none⟩=some (.int .i64 cf):=by rw[World.cell?_alloc_new];rfl
  have c2:(w.alloc (.cells #[.int .i64 ck,.int .i64 cf,.int .i64 cs,.int .i64 cp,.int .i64 ct,.bool cg] 36)).cell? ⟨w.heap.size,2,none⟩=some (.int .i64 cs):=by rw[World.cell?_alloc_new];rfl
  have p1:=H.cell 1
  have p2:=H.cell 2
  have p4:=H.cell 4
  have f1:=H.free 1
  have f2:=H.free 2
  have f4:=H.free 4
  have lp:=H.ltp
  have hp2:w.heap.size < (w.alloc (.cells #[.int .i64 ck,.int .i64 cf,.int .i64 cs,.int .i64 cp,.int .i64 ct,.bool cg] 36)).heap.size:=by simp
  have HW:=Lib.hid H
  clear ok b1 H
  have e1:ck=1∨ck=2∨ck=3∨ck=5∨ck=6∨ck=4∨ck=7∨ck=8:=by omega
  clear hk0 hk1
  rcases e1 with rfl | rfl | rfl | rfl | rfl | hk
  . clear c0 c1 c2 p1 p2 p4 f1 f2 f4
    go_enter Tryz.func156,Tryz.ntmps156
    go_wp2_with fail
    go_end0
    exact⟨rfl,H1,G1.out⟩
  . clear c0 c1 c2 p2 p4 f2 f4
    go_enter Tryz.func156,Tryz.ntmps156
    go_wp2_with fail
    go_end0
    exact⟨rfl,(HW.out.putp 1 (.int .i64 0) ⟨s,0,r,u,m⟩ rfl).below ((Below.refl _ _).alloc (Nat.le_refl _) _),((Grow2.refl w p q).put 1 _).below ((Below.refl _ _).alloc (Nat.le_refl _) _)⟩
  . clear c0 c1 c2 p1 p4 f1 f4
    go_enter Tryz.func156,Tryz.ntmps156
    go_wp2_with fail
    go_end0
    exact⟨rfl,(HW.out.putp 2 (.int .i64 0) ⟨s,f,0,u,m⟩ rfl).below ((Below.refl _ _).alloc (Nat.le_refl _) _),((Grow2.refl w p q).put 2 _).below ((Below.refl _ _).alloc (Nat.le_refl _) _)⟩
  . clear c0 c1 c2 p1 p2 f1 f2
    go_enter Tryz.func156,Tryz.ntmps156
    go_wp2_with fail
    go_end0
    exact⟨rfl,(HW.out.putp 4 (.int .i64 0) ⟨s,f,r,u,0⟩ rfl).below ((Below.refl _ _).alloc (Nat.le_refl _) _),((Grow2.refl w p q).put 4 _).below ((Below.refl _ _).alloc (Nat.le_refl _) _)⟩
  . obtain⟨s0,s1,m4,t1,t2,t3⟩:=HO.out.shot rfl
    simp only at s0 s1 m4 t1 t2 t3
    obtain⟨σ,rfl⟩:=Int.eq_ofNat_of_zero_le s0
    obtain⟨μ,rfl⟩:=Int.eq_ofNat_of_zero_le (show 0≤m by omega)
    obtain⟨τ,rfl⟩:=Int.eq_ofNat_of_zero_le (show 0≤u by omega)
    rw[Int.toNat_natCast] at t3
    have HD:Hid (dropC ⟨6,cf,(σ:Int),cp,ct,cg⟩ (⟨s,f,r,(τ:Int),(μ:Int)⟩,os)=(⟨s,f,r,(τ:Int),(μ:Int) - 1⟩,leaveL (τ * 8) μ σ os)):=by
      show dropC _ _=_
      unfold dropC
      simp
    clear c0 c1 p1 p2 p4 f1 f2 f4 HO
    go_enter Tryz.func156,Tryz.ntmps156
    go_wp2_with fail
    refine(leaveOut_any p q τ μ σ s f r os _ H1 (by omega) (by omega) (by omega) (by omega) t3 ho2).mono ?_
    rintro e w2 ⟨rfl,H2,G2⟩
    go_wp2_with fail
    go_end0
    rw[HD.out]
    exact⟨rfl,H2,G1.out.next (.inl rfl) G2⟩
  . obtain⟨t1,t2,s0,s1,hx⟩:=HO.out.word (by simp only;omega)
    simp only at t1 t2 s0 s1 hx
    obtain⟨σ,rfl⟩:=Int.eq_ofNat_of_zero_le s0
    obtain⟨τ,rfl⟩:=Int.eq_ofNat_of_zero_le (show 0≤cf by omega)
    rw[Int.toNat_natCast,Int.toNat_natCast] at hx
    have HD:Hid (dropC ⟨ck,(τ:Int),(σ:Int),cp,ct,cg⟩ (⟨s,f,r,u,m⟩,os)=(⟨s,f,r,u,m⟩,os.set (τ * 8+σ) 0)):=by
      show dropC _ _=_
      unfold dropC
      rw[if_neg (by simp only;omega),if_neg (by simp only;omega),if_neg (by simp only;omega),if_neg (by simp only;omega),if_pos (by simp only;omega)]
      simp
    clear p1 p2 p4 f1 f2 f4 HO
    have q5:=H1.cell 5
    have qw:=H1.word hx
    have qf:=H1.freeq (τ * 8+σ)
    have HP:=Lib.hid (H1.putq (τ * 8+σ) 0)
    have GP:=Lib.hid (G1.out.grown (grownBy_cell _ q (τ * 8+σ) (.int .i64 0)))
    have n1:IntKind.i64.wrap ((τ:Int) * 8)=(τ:Int) * 8:=IntWalk.i64_in _ (by omega)
    have n2:IntKind.i64.wrap ((τ:Int) * 8+(σ:Int))=(τ:Int) * 8+(σ:Int):=IntWalk.i64_in _ (by omega)
    have n3:(0:Int)≤(τ:Int) * 8+(σ:Int):=by omega
    have n4:(τ:Int) * 8+(σ:Int) < (os.length:Int):=by omega
    have n5:((τ:Int) * 8+(σ:Int)).toNat=τ * 8+σ:=by omega
    have H1':=Lib.hid H1
    clear H1
    generalize os.getD (τ * 8+σ) 0=v0 at *
    rcases hk with rfl | rfl | rfl
    all_goals
      go_enter Tryz.func156,Tryz.ntmps156
      go_wp2_with fail
      generalize (w.alloc (.cells #[.int .i64 _,.int .i64 (τ:Int),.int .i64 (σ:Int),.int .i64 cp,.int .i64 ct,.bool cg] 36))=v at *
      go_still_tail 11,(by kernel_rfl)
      go_wp2_with fail
      go_end0
      rw[HD.out]
      exact⟨rfl,⟨HP.out.box,HP.out.row,HP.out.ne⟩,GP.out.drew⟩
set_option maxRecDepth 100000 in
set_option maxHeartbeats 4000000 in
theorem writeHead_any (p q:Nat)(h:Hd)(os:List Int)(w:World)(H:ImAt w p q h os)(hb:headB (endHead h)=true)(ho:8≤os.length) :
    Calls Tryz.prog 135 #[.pointer (some ⟨p,0,none⟩)] w fun e w'=>e=.returned (.tuple #[])∧ImAt w' p q (endHead h) (Go.splice os 0 (hdW (endHead h)))∧Grow2 w w' p q:=by
  obtain⟨s,f,r,u,m⟩:=h
  have p4:=H.cell 4
  have p3:=H.cell 3
  have f3:=H.free 3
  have HW:=Lib.hid H
  have HB:=Lib.hid hb
  clear H hb
  by_cases hm:m=0
  case pos =>
    subst hm
    have HE:Hid (endHead ⟨s,f,r,u,0⟩=⟨s,f,r,0,0⟩):=rfl
    rw[HE.out] at HB ⊢
    have hd:((0:Int) == 0)=true:=rfl
    have H1:=Lib.hid (HW.out.putp 3 (.int .i64 0) ⟨s,f,r,0,0⟩ rfl)
    have G1:=Lib.hid ((Grow2.refl w p q).put 3 (.int .i64 0))
    go_enter Tryz.func135,Tryz.ntmps135
    go_wp2_with fail
    clear p4 p3 f3
    generalize (w.setCell ⟨p,3,none⟩ (.int .i64 0))=v at *
    have HBW:=Lib.hid (hdWords_yes HB.out)
    have c0:v.drew.cell? ⟨p,0,none⟩=some (.int .i64 s):=H1.out.cell 0
    have c1:v.drew.cell? ⟨p,1,none⟩=some (.int .i64 f):=H1.out.cell 1
    have c2:v.drew.cell? ⟨p,2,none⟩=some (.int .i64 r):=H1.out.cell 2
    have c3:v.drew.cell? ⟨p,3,none⟩=some (.int .i64 0):=H1.out.cell 3
    have c4:v.drew.cell? ⟨p,4,none⟩=some (.int .i64 0):=H1.out.cell 4
    have c5:v.drew.cell? ⟨p,5,none⟩=some (.slice (some ⟨q,0,none⟩) os.length os.length):=H1.out.cell 5
    have HD1:Hid (ImAt v.drew p q ⟨s,f,r,0,0⟩ os):=⟨H1.out.box,H1.out.row,H1.out.ne⟩
    have GD1:Hid (Grow2 w v.drew p q):=G1.out.drew
    have lp:p < v.drew.heap.size:=H1.out.ltp
    obtain⟨N,hN⟩:∃ N,N=os.length:=⟨_,rfl⟩
    rw[← hN] at c5 ho
    have HN:=Lib.hid hN
    clear hN HW H1 G1
    go_region_held3 (fun w'=>w'.cell? ⟨p,0,none⟩=some (.int .i64 s)∧w'.cell? ⟨p,1,none⟩=some (.int .i64 f)∧w'.cell? ⟨p,2,none⟩=some (.int .i64 r)∧w'.cell? ⟨p,3,none⟩=some (.int .i64 0)∧w'.cell? ⟨p,4,none⟩=some (.int .i64 0)∧w'.cell? ⟨p,5,none⟩=some (.slice (some ⟨q,0,none⟩) N N))
      (first
        | (go_split_ands;exact⟨(b2.cell (p:=⟨p,0,none⟩) lp).trans c0,(b2.cell (p:=⟨p,1,none⟩) lp).trans c1,(b2.cell (p:=⟨p,2,none⟩) lp).trans c2,(b2.cell (p:=⟨p,3,none⟩) lp).trans c3,(b2.cell (p:=⟨p,4,none⟩) lp).trans c4,(b2.cell (p:=⟨p,5,none⟩) lp).trans c5⟩)
        | (go_split_ands;exact⟨H5.out.cell 0,H5.out.cell 1,H5.out.cell 2,H5.out.cell 3,H5.out.cell 4,by have:=H5.out.cell 5;rw[HL5.out] at this;exact this⟩)
        | go_keep)
      (first
        | (refine step_copy_block (by rfl) (.tmp 15) (.tmp 20) 24 24 (by rfl) 2 Tryz.underlying24 info2s q 0 ad N N 8 cx (by kernel_rfl) (by kernel_rfl) (iv os) 2 H2.out.row (iv (hdW ⟨s,f,r,0,0⟩)) (by exact(Nat.min_eq_left ho).symm) HS.out (by rw[iv_length,iv_length,← HN.out];show 0+8≤N;omega) (int_one _) ?_;intro w5 h5 g5;rw[iv_splice] at h5;have H5:=Lib.hid (H2.out.turn g5 h5 (Go.length_splice _ _ _ (by rw[← HN.out];show 0+8≤N;omega)));have G5:=Lib.hid (G2.out.grown g5);have HL5:=Lib.hid ((Go.length_splice os 0 (hdW ⟨s,f,r,0,0⟩) (by rw[← HN.out];show 0+8≤N;omega)).trans HN.out.symm);clear h5 g5)
        | (go_at_call 63; refine (implHeadWords_any ⟨s, f, r, 0, 0⟩ _).mono ?_; rintro e w2 ⟨X, nx, cx, rfl, oX, b2⟩
           rw[HBW.out] at oX
           obtain rfl:8=nx:=oX.len
           obtain⟨ad,rfl,hsrc⟩:=rd_src oX.rd
           have HS:=Lib.hid hsrc
           have H2:=Lib.hid (HD1.out.below b2)
           have G2:=Lib.hid (GD1.out.below b2)
           clear hsrc oX))
    go_wp2_with fail
    go_end0
    exact⟨rfl,H5.out,G5.out⟩
  case neg =>
    have HE:Hid (endHead ⟨s,f,r,u,m⟩=⟨s,f,r,u,m⟩):=if_neg hm
    rw[HE.out] at HB ⊢
    have hd:(m == 0)=false:=by simpa using hm
    have H1:=HW
    have G1:=Lib.hid (Grow2.refl w p q)
    clear hm
    go_enter Tryz.func135,Tryz.ntmps135
    go_wp2_with fail
    clear p4 p3 f3
    have HBW:=Lib.hid (hdWords_yes HB.out)
    have c0:w.drew.cell? ⟨p,0,none⟩=some (.int .i64 s):=H1.out.cell 0
    have c1:w.drew.cell? ⟨p,1,none⟩=some (.int .i64 f):=H1.out.cell 1
    have c2:w.drew.cell? ⟨p,2,none⟩=some (.int .i64 r):=H1.out.cell 2
    have c3:w.drew.cell? ⟨p,3,none⟩=some (.int .i64 u):=H1.out.cell 3
    have c4:w.drew.cell? ⟨p,4,none⟩=some (.int .i64 m):=H1.out.cell 4
    have c5:w.drew.cell? ⟨p,5,none⟩=some (.slice (some ⟨q,0,none⟩) os.length os.length):=H1.out.cell 5
    have HD1:Hid (ImAt w.drew p q ⟨s,f,r,u,m⟩ os):=⟨H1.out.box,H1.out.row,H1.out.ne⟩
    have GD1:Hid (Grow2 w w.drew p q):=G1.out.drew
    have lp:p < w.drew.heap.size:=H1.out.ltp
    obtain⟨N,hN⟩:∃ N,N=os.length:=⟨_,rfl⟩
    rw[← hN] at c5 ho
    have HN:=Lib.hid hN
    clear hN HW H1 G1
    go_region_held3 (fun w'=>w'.cell? ⟨p,0,none⟩=some (.int .i64 s)∧w'.cell? ⟨p,1,none⟩=some (.int .i64 f)∧w'.cell? ⟨p,2,none⟩=some (.int .i64 r)∧w'.cell? ⟨p,3,none⟩=some (.int .i64 u)∧w'.cell? ⟨p,4,none⟩=some (.int .i64 m)∧w'.cell? ⟨p,5,none⟩=some (.slice (some ⟨q,0,none⟩) N N))
      (first
        | (go_split_ands;exact⟨(b2.cell (p:=⟨p,0,none⟩) lp).trans c0,(b2.cell (p:=⟨p,1,none⟩) lp).trans c1,(b2.cell (p:=⟨p,2,none⟩) lp).trans c2,(b2.cell (p:=⟨p,3,none⟩) lp).trans c3,(b2.cell (p:=⟨p,4,none⟩) lp).trans c4,(b2.cell (p:=⟨p,5,none⟩) lp).trans c5⟩)
        | (go_split_ands;exact⟨H5.out.cell 0,H5.out.cell 1,H5.out.cell 2,H5.out.cell 3,H5.out.cell 4,by have:=H5.out.cell 5;rw[HL5.out] at this;exact this⟩)
        | go_keep)
      (first
        | (refine step_copy_block (by rfl) (.tmp 15) (.tmp 20) 24 24 (by rfl) 2 Tryz.underlying24 info2s q 0 ad N N 8 cx (by kernel_rfl) (by kernel_rfl) (iv os) 2 H2.out.row (iv (hdW ⟨s,f,r,u,m⟩)) (by exact(Nat.min_eq_left ho).symm) HS.out (by rw[iv_length,iv_length,← HN.out];show 0+8≤N;omega) (int_one _) ?_;intro w5 h5 g5;rw[iv_splice] at h5;have H5:=Lib.hid (H2.out.turn g5 h5 (Go.length_splice _ _ _ (by rw[← HN.out];show 0+8≤N;omega)));have G5:=Lib.hid (G2.out.grown g5);have HL5:=Lib.hid ((Go.length_splice os 0 (hdW ⟨s,f,r,u,m⟩) (by rw[← HN.out];show 0+8≤N;omega)).trans HN.out.symm);clear h5 g5)
        | (go_at_call 63; refine (implHeadWords_any ⟨s, f, r, u, m⟩ _).mono ?_; rintro e w2 ⟨X, nx, cx, rfl, oX, b2⟩
           rw[HBW.out] at oX
           obtain rfl:8=nx:=oX.len
           obtain⟨ad,rfl,hsrc⟩:=rd_src oX.rd
           have HS:=Lib.hid hsrc
           have H2:=Lib.hid (HD1.out.below b2)
           have G2:=Lib.hid (GD1.out.below b2)
           clear hsrc oX))
    go_wp2_with fail
    go_end0
    exact⟨rfl,H5.out,G5.out⟩
theorem setCl0_le (zs ws:List Int)(hw:ws.length≤8):(setCl zs 0 ws).length≤zs.length+8:=by
  unfold setCl
  simp
  omega
theorem keep_len (h:Hd)(kw:List Int):∀ (k:Nat) (z:List Int),((List.range k).foldl (keepStep h kw) z).length=z.length
  | 0,_=>rfl
  | k+1,z=>by rw[range_next];unfold keepStep;rw[List.length_set];exact keep_len h kw k z
theorem clearedL_length (xs:List Int):(clearedL xs).length≤520:=by
  unfold clearedL
  split
  . rename_i hh
    have hm:=manyN_le (hasHead_img hh)
    have h1:=setCl0_le (clr2 xs) (hdW (clrHead xs)) (by simp[hdW])
    have h2:(clr2 xs).length=(whole xs).length:=by
      unfold clr2
      rw[clr_len]
      unfold clr1 keepL
      split
      . exact keep_len _ _ _ _
      . rfl
    rw[whole_length] at h2
    unfold clrC
    omega
  . simp
def ClearedC:Prop:=∀ (A:Option Addr) (n c:Nat) (xs:List Int) (w:World),Rd w w.heap.size A n xs→n≤2097152→n≤c→Calls Tryz.prog 103 #[.slice A n c] w (Ret w (clearedL xs))
attribute [local go_sem] Oper.semAt_some
def clA (c:Cm):Value:=.agg #[.int .i64 c.kind,.int .i64 c.frm,.int .i64 c.slot,.int .i64 c.place,.int .i64 c.target,.bool c.good]
theorem back_in (A:Option Addr)(n c:Nat)(nn:Nat)(w:World) :
    CallsIn Fence.wide nn Tryz.prog 155 #[.slice A n c] w fun e w'=>e=.returned (.func (.func 174) #[] #[.pointer (some ⟨w.heap.size,0,none⟩)])∧w'=w.alloc (.cells #[.slice A n c] 37):=by
  refine callsIn_of_wp Tryz.func155 rfl trivial ?_ rfl
  simp only[Tryz.ntmps155,List.size_toArray,List.length_cons,List.length_nil,Nat.reduceAdd,Nat.reduceSub,Array.replicate_succ,Array.replicate_zero,List.push_toArray,List.append_toArray,List.nil_append,List.cons_append]
  gi_wp2
  go_ret
  exact⟨rfl,rfl⟩
set_option maxRecDepth 100000 in
set_option maxHeartbeats 4000000 in
theorem back_list (S:Nat→Prop) (nn Bs lo hi:Nat) (hnn:1≤nn) (A:Option Addr) (cg:Nat) (L:List Cm) (w:World) (hl:L.length≤10000) (hBs:Bs < w.heap.size) (hbox:w.cell? ⟨Bs,0,none⟩=some (.slice A L.length cg)) (hr:OwR 36 6 w lo hi A L.length cg (L.flatMap cmV)) (hhi:hi≤w.heap.size)
    (hS1:¬ S Bs) (hS2:∀ g,A=some ⟨g,0,none⟩→¬ S g) :
    SeqList Fence.wide nn Tryz.prog 174 #[.pointer (some ⟨Bs,0,none⟩)] (fun k=>#[.int .i64 ((L.length - 1 - k:Nat):Int),clA (L.getD (L.length - 1 - k) cm0)]) L.length (KpS S) w:=by
  intro l J W hW hJ h0 hY
  have hbox:=(hW.cell (p:=⟨Bs,0,none⟩) hBs).trans hbox
  have hr:=hr.below hW hhi
  show CallsIn Fence.wide nn Tryz.prog 174 #[.func (.yield l) #[] #[],.pointer (some ⟨Bs,0,none⟩)] W _
  refine callsIn_of_wp Tryz.func174 rfl trivial ?_ rfl
  simp only[Tryz.ntmps174,List.size_toArray,List.length_cons,List.length_nil,Nat.reduceAdd,Nat.reduceSub,Array.replicate_succ,Array.replicate_zero,List.push_toArray,List.append_toArray,List.nil_append,List.cons_append]
  have HY:=Lib.hid hY
  have HG:=Lib.hid hr
  have HS2:=Lib.hid hS2
  have HB:=Lib.hid hbox
  have HNN:=Lib.hid hnn
  obtain⟨N,hN⟩:∃ N,N=L.length:=⟨_,rfl⟩
  rw[← hN] at hbox hl
  have HN:=Lib.hid hN
  clear hY hJ hr hS2 hW hnn
  rw[← hN]
  clear hN
  gi_wp2
  gi_loopw [3] (fun i wr=>∃ m:Nat,m≤N∧i=.int .i64 ((m:Int) - 1)∧J (N - m) wr∧KpS S W wr) (fun i _=>(intOf i+1).toNat)
  case atStart=>exact⟨N,Nat.le_refl _,rfl,by rw[Nat.sub_self];exact h0,KpS.refl _ _⟩
  case round =>
    obtain⟨m,hm,rfl,hJs,hkp⟩:=hrel
    have hbx:wr.cell? ⟨Bs,0,none⟩=some (.slice A N cg):=by rw[HN.out];exact hkp.2 _ _ hS1 HB.out
    have HK:=Lib.hid hkp
    clear hkp h0 hbox
    rcases m with _ | j
    . rw[show (((0:Nat):Int) - 1)=-1 from rfl]
      gi_wp2
      go_end0
      exact⟨⟨_,rfl⟩,by simpa using hJs⟩
    . rw[show (((j+1:Nat):Int) - 1)=(j:Int) by omega]
      have hjl:j < L.length:=by have:=HN.out;omega
      obtain⟨g,rfl,hg1,hg2,hg3,hce⟩:=cmr_cells8 HG.out hjl
      have hce:∀ i v,i < 6→(cmV (L.getD j cm0))[i]?=some v→wr.cell? ⟨g,j * 6+i,none⟩=some v:=fun i v hi hv=>HK.out.2 _ _ (HS2.out g rfl) ((hce i hi).trans hv)
      obtain⟨fn,tmps,assign,body,hy,hR⟩:=HY.out (N - (j+1)) wr (by have:=HN.out;omega) hJs
      rw[show L.length - 1 - (N - (j+1))=j by have:=HN.out;omega] at hy
      generalize L.getD j cm0=x at *
      obtain⟨xk,xf,xs',xp,xt,xg⟩:=x
      have e0:wr.cell? ⟨g,j * 6,none⟩=some (.int .i64 xk):=hce 0 _ (by omega) rfl
      have e1:wr.cell? ⟨g,j * 6+1,none⟩=some (.int .i64 xf):=hce 1 _ (by omega) rfl
      have e2:wr.cell? ⟨g,j * 6+2,none⟩=some (.int .i64 xs'):=hce 2 _ (by omega) rfl
      have e3:wr.cell? ⟨g,j * 6+3,none⟩=some (.int .i64 xp):=hce 3 _ (by omega) rfl
      have e4:wr.cell? ⟨g,j * 6+4,none⟩=some (.int .i64 xt):=hce 4 _ (by omega) rfl
      have e5:wr.cell? ⟨g,j * 6+5,none⟩=some (.bool xg):=hce 5 _ (by omega) rfl
      clear hce
      unfold clA at hy
      dsimp only at hy
      have hjN:j < N:=by omega
      gi_wp2
      refine⟨fun _=>HNN.out,hR.mono ?_⟩
      rintro e W3 ⟨rfl,hJ3,hk3⟩
      have hk3:=HK.out.trans hk3
      have hJ3':J (N - j) W3:=by
        rw[show N - (j+1)+1=N - j by omega] at hJ3
        exact hJ3
      gi_wp2
      go_roundw
      case rel=>exact⟨j,by omega,by go_num,hJ3',hk3⟩
      case measure=>simp[intOf]
def dropK (L:List Cm)(s0:Hd × List Int)(k:Nat):Hd × List Int:=dropsC (L.drop (L.length - k)) s0
theorem dropK_zero (L:List Cm)(s0:Hd × List Int):dropK L s0 0=s0:=by unfold dropK;rw[Nat.sub_zero,List.drop_length];exact rfl
theorem dropK_all (L:List Cm)(s0:Hd × List Int):dropK L s0 L.length=dropsC L s0:=by unfold dropK;rw[Nat.sub_self];exact rfl
theorem drop_last (L:List Cm){k:Nat}(hk:k < L.length):L.drop (L.length - (k+1))=L.getD (L.length - 1 - k) cm0 :: L.drop (L.length - k):=by
  rw[List.drop_eq_getElem_cons (show L.length - (k+1) < L.length by omega),show L.length - (k+1)+1=L.length - k by omega,List.getD_eq_getElem?_getD,List.getElem?_eq_getElem (show L.length - 1 - k < L.length by omega)]
  simp only[Option.getD_some]
  congr 2 <;> omega
theorem dropK_step (L:List Cm)(s0:Hd × List Int){k:Nat}(hk:k < L.length):dropK L s0 (k+1)=dropC (L.getD (L.length - 1 - k) cm0) (dropK L s0 k):=by
  unfold dropK
  rw[drop_last L hk]
  rfl
def StepsOk (N:Nat)(L:List Cm)(s0:Hd × List Int):Prop:=∀ k,k < L.length→DropOk N (dropK L s0 k).1 (L.getD (L.length - 1 - k) cm0)
theorem steps_ok {b:List Int}(hh:hasHead b=true):StepsOk (manyN b * 8) (looseL b) (headOf b,whole b):=by
  intro k hk
  have e:looseL b=(looseL b).take ((looseL b).length - (k+1))++(looseL b).getD ((looseL b).length - 1 - k) cm0 :: (looseL b).drop ((looseL b).length - k):=by
    rw[← drop_last _ hk,List.take_append_drop]
  exact drops_ok hh e
def DrI (w:World)(Bm p q N:Nat)(L:List Cm)(s0:Hd × List Int)(k:Nat)(W:World):Prop :=
  Boxed W Bm 123 (.pointer (some ⟨p,0,none⟩))∧ImAt W p q (dropK L s0 k).1 (dropK L s0 k).2∧(dropK L s0 k).2.length=N∧Grow2 w W p q
def DrX (Bm p q:Nat)(L:List Cm)(tm:Nat→Nat→Array Value)(k:Nat)(a:Act)(W:World):Prop :=
  ∃ Bx,Bm < Bx∧p < Bx∧q < Bx∧W.heap[Bx]?=some (.cells #[.int .i64 (L.getD (L.length - 1 - k) cm0).kind,.int .i64 (L.getD (L.length - 1 - k) cm0).frm,.int .i64 (L.getD (L.length - 1 - k) cm0).slot,.int .i64 (L.getD (L.length - 1 - k) cm0).place,.int .i64 (L.getD (L.length - 1 - k) cm0).target,.bool (L.getD (L.length - 1 - k) cm0).good] 36 (0,0))∧a={ tmps:=tm k Bx,defers:=[] }
theorem DrI.own {w:World}{Bm p q N B:Nat}{L:List Cm}{s0:Hd × List Int}(h1:w.heap.size≤B)(h2:p < B)(h3:q < B)(h4:Bm < B):OwnFrom B (DrI w Bm p q N L s0):=fun s X Y row hs hg hr=>by
  obtain⟨b,o,e,l⟩:=hs
  have far:∀ k,k < B→some k≠row:=fun k hk e=>by have:=(hr _ e.symm).1;omega
  refine⟨b.kept hg (far _ h4),o.keep (hg.block p o.ltp (far _ h2)) (hg.block q o.ltq (far _ h3)),e,⟨hg.os.trans l.os,hg.tape.trans l.tape,hg.output.trans l.output,Nat.le_trans l.size hg.size,fun k hk hp hq=>(hg.block k (Nat.lt_of_lt_of_le hk l.size) (far _ (by omega))).trans (l.block k hk hp hq)⟩⟩
theorem DrX.own {Bm p q B:Nat}{L:List Cm}{tm:Nat→Nat→Array Value}{k:Nat}{a:Act}:OwnFrom B (fun (_:Unit) W=>DrX Bm p q L tm k a W):=fun _ X Y row hs hg hr=>by
  obtain⟨Bx,h1,h2,h3,h4,h5⟩:=hs
  refine⟨Bx,h1,h2,h3,?_,h5⟩
  refine(hg.block Bx (Array.getElem?_eq_some_iff.1 h4).1 (fun e=>?_)).trans h4
  obtain⟨_,o,ho,hc⟩:=hr _ e.symm
  rw[h4] at ho
  cases ho
  cases hc
set_option maxRecDepth 100000 in
set_option maxHeartbeats 4000000 in
theorem dropAll_any (p q lo hi:Nat) (A:Option Addr) (cg:Nat) (L:List Cm) (s0:Hd × List Int) (w:World) (H:ImAt w p q s0.1 s0.2) (hok:StepsOk s0.2.length L s0) (ho2:s0.2.length≤512) (hl:L.length≤10000)
    (hr:OwR 36 6 w lo hi A L.length cg (L.flatMap cmV)) (hhi:hi≤w.heap.size) (hS:∀ g,A=some ⟨g,0,none⟩→g≠p∧g≠q) :
    Calls Tryz.prog 134 #[.pointer (some ⟨p,0,none⟩),.slice A L.length cg] w fun e w'=>e=.returned (.tuple #[])∧ImAt w' p q (dropsC L s0).1 (dropsC L s0).2∧Grow2 w w' p q:=by
  refine(callsIn_wide (n:=5)).1 ?_
  refine callsIn_of_wp_marks Tryz.func134 rfl trivial ?_ rfl
  simp only[Tryz.ntmps134,List.size_toArray,List.length_cons,List.length_nil,Nat.reduceAdd,Nat.reduceSub,Array.replicate_succ,Array.replicate_zero,List.push_toArray,List.append_toArray,List.nil_append,List.cons_append]
  have H0:=Lib.hid H
  have lp:=H.ltp
  have lq:=H.ltq
  have HR:=Lib.hid hr
  have HOK:=Lib.hid hok
  clear H hr hok
  gi_wp2_with (refine⟨trivial,?_⟩;gi_at_call 155;refine(back_in A _ cg _ _).mono ?_;rintro e w' ⟨rfl,rfl⟩)
  have b1:=(Below.refl w.heap.size w).alloc (Nat.le_refl _) (.cells #[.pointer (some ⟨p,0,none⟩)] 123)
  have b2:=b1.alloc b1.size (.cells #[.slice A L.length cg] 37)
  have x1:Boxed (w.alloc (.cells #[.pointer (some ⟨p,0,none⟩)] 123)) w.heap.size 123 (.pointer (some ⟨p,0,none⟩)):=Boxed.new _ _ _
  have x2:=x1.alloc (.cells #[.slice A L.length cg] 37)
  have y2:=Boxed.new (w.alloc (.cells #[.pointer (some ⟨p,0,none⟩)] 123)) 37 (.slice A L.length cg)
  rw[World.size_alloc] at y2
  have H2:=H0.out.below b2
  have G2:=(Grow2.refl w p q).below b2
  have R2:=HR.out.below b2 hhi
  have z2:((w.alloc (.cells #[.pointer (some ⟨p,0,none⟩)] 123)).alloc (.cells #[.slice A L.length cg] 37)).heap.size=w.heap.size+2:=by simp
  generalize (w.alloc (.cells #[.pointer (some ⟨p,0,none⟩)] 123)).alloc (.cells #[.slice A L.length cg] 37)=w2 at *
  clear b1 x1 b2
  refine wpIn_range_list rfl (by omega) (gf:=174) (lb:=#[.pointer (some ⟨w.heap.size+1,0,none⟩)]) rfl trivial (enters_of Tryz.func174 (by kernel_rfl) rfl)
    (back_list (fun b=>b=p∨b=q) 4 (w.heap.size+1) lo hi (by omega) A cg L w2 hl (by omega) y2.cell R2 (by omega) (by omega) (fun g hg=>by have:=hS g hg;omega)) KpS.trans (fun W l o o' _ h ho _=>KpS.put o' h ho) (Below.refl _ _) (fun _=>rfl)
    (DrI w w.heap.size p q s0.2.length L s0) (DrI.own (by omega) (by omega) (by omega) (by omega)) ⟨x2,by rw[dropK_zero];exact H2,by rw[dropK_zero],G2⟩
    (DrX w.heap.size p q L (fun k Bx=>#[.pointer (some ⟨p,0,none⟩),.slice A L.length cg,.pointer (some ⟨w.heap.size,0,none⟩),undef,undef,.pointer (some ⟨Bx,0,none⟩),.slice A L.length cg,
      .func (.func 174) #[] #[.pointer (some ⟨w.heap.size+1,0,none⟩)],.int .i64 ((L.length - 1 - k:Nat):Int),clA (L.getD (L.length - 1 - k) cm0),undef,undef,undef])) (fun _ _=>DrX.own) ?assign ?body ?done
  case assign =>
    rintro l k W K hk ⟨hb,hi',hle,hg⟩ hK
    unfold clA at hK ⊢
    gi_wp2
    refine hK _ _ ((KeepsOthers.alloc _ _).from _) ((KpS.refl _ _).alloc _) ⟨hb.alloc _,hi'.below ((Below.refl _ _).alloc (Nat.le_refl _) _),hle,hg.below ((Below.refl _ _).alloc (Nat.le_refl _) _)⟩ ⟨W.heap.size,hb.lt,hi'.ltp,hi'.ltq,World.alloc_heap_new W _,rfl⟩
  case body =>
    rintro l k a' W hk ⟨hb,hi',hle,hg⟩ ⟨Bx,h1,h2,h3,h4,rfl⟩
    have HS:=Lib.hid (dropK_step L s0 hk)
    have HOk:=Lib.hid (HOK.out k hk)
    have c1:=hb.cell
    generalize L.getD (L.length - 1 - k) cm0=x at *
    have hlen:=Lib.hid (dropC_length (os:=(dropK L s0 k).2) (h:=(dropK L s0 k).1) (c:=x) (by rw[hle];exact HOk.out))
    have HD:=drop_any p q (dropK L s0 k).1 (dropK L s0 k).2 x W hi' (by rw[hle];exact HOk.out) (by omega)
    have e0:W.cell? ⟨Bx,0,none⟩=some (.int .i64 x.kind):=by simp[World.cell?,h4]
    have e1:W.cell? ⟨Bx,1,none⟩=some (.int .i64 x.frm):=by simp[World.cell?,h4]
    have e2:W.cell? ⟨Bx,2,none⟩=some (.int .i64 x.slot):=by simp[World.cell?,h4]
    have e3:W.cell? ⟨Bx,3,none⟩=some (.int .i64 x.place):=by simp[World.cell?,h4]
    have e4:W.cell? ⟨Bx,4,none⟩=some (.int .i64 x.target):=by simp[World.cell?,h4]
    have e5:W.cell? ⟨Bx,5,none⟩=some (.bool x.good):=by simp[World.cell?,h4]
    clear h4
    gi_wp2
    refine⟨trivial,(CallsIn.inRound l ((callsIn_wide (n:=2)).2 HD)).mono ?_⟩
    rintro e W3 ⟨rfl,H3,G3⟩
    gi_wp2
    refine⟨⟨G3.size,fun j o hj ho _=>(G3.block j (Array.getElem?_eq_some_iff.1 ho).1 (by omega) (by omega)).trans ho⟩,KpS.of G3.size (fun j hj hn=>G3.block j hj (fun e=>hn (.inl e)) (fun e=>hn (.inr e))),?_,?_,?_,hg.next (.inl rfl) G3⟩
    . exact(G3.block _ hb.lt (by omega) (by omega)).trans hb
    . rw[HS.out];exact H3
    . rw[HS.out];exact hlen.out.trans hle
  case done =>
    rintro D W hD ⟨hb,hi',hle,hg⟩ hK
    gi_wp2
    refine⟨by simp,.inl ⟨_,_,rfl,run_takeDeferred hK,?_⟩⟩
    refine⟨_,results_none rfl _ _ _,rfl,?_⟩
    have g7:=grownBy_putObj' W D (.deferred none)
    rw[dropK_all] at hi'
    exact⟨hi'.keep (g7.block p hi'.ltp (fun e=>by cases e;omega)) (g7.block q hi'.ltq (fun e=>by cases e;omega)),⟨g7.os.trans hg.os,g7.tape.trans hg.tape,g7.output.trans hg.output,Nat.le_trans hg.size g7.size,fun j hj hp hq=>(g7.block j (Nat.lt_of_lt_of_le hj hg.size) (fun e=>by cases e;omega)).trans (hg.block j hj hp hq)⟩⟩
theorem splice_setCl (zs ws:List Int)(hw:ws.length=8):Go.splice zs 0 ws=setCl zs 0 ws:=by
  unfold Go.splice setCl
  rw[hw]
  simp
set_option maxRecDepth 100000 in
set_option maxHeartbeats 4000000 in
theorem implCleared_any (hLo:LooseC):ClearedC:=by
  intro A n c xs w hr hn hnc
  go_enter Tryz.func103,Tryz.ntmps103
  go_wp2_with fail
  refine(implHeadIn_any _ _ _ xs _ hr hn).mono ?_
  rintro e w1 ⟨rfl,b1⟩
  generalize hh:headIn xs=rr
  obtain⟨⟨s,f,r,u,m⟩,is⟩:=rr
  have HHD:=Lib.hid hh
  clear hh
  unfold hdV
  have b2:=b1.alloc b1.size (.cells #[.int .i64 s,.int .i64 f,.int .i64 r,.int .i64 u,.int .i64 m] 31)
  cases is
  . have HN:Hid (clearedL xs=[]):=by unfold clearedL;rw[(headIn_false HHD.out).1];exact rfl
    go_wp2_with fail
    go_ret
    rw[HN.out]
    exact Ret.nil _ _ b2
  . have HH:=Lib.hid (headIn_true HHD.out)
    have HN:Hid (clearedL xs=clrC xs):=by unfold clearedL;rw[HH.out.1];exact rfl
    have HHO:Hid (headOf xs=⟨s,f,r,u,m⟩):=HH.out.2
    clear b1
    go_wp2_with fail
    have n2:HBox (w1.alloc (.cells #[.int .i64 s,.int .i64 f,.int .i64 r,.int .i64 u,.int .i64 m] 31)) w1.heap.size ⟨s,f,r,u,m⟩:=HBox.new w1 ⟨s,f,r,u,m⟩
    generalize (w1.alloc (.cells #[.int .i64 s,.int .i64 f,.int .i64 r,.int .i64 u,.int .i64 m] 31))=v at *
    generalize w1.heap.size=gh at *
    have hrd:Rd v.drew v.drew.heap.size A n xs:=(hr.below b2).more b2.size
    have hgl:gh < v.heap.size:=n2.lt
    have p0:v.drew.cell? ⟨gh,0,none⟩=some (.int .i64 s):=n2.cell 0
    have p1:v.drew.cell? ⟨gh,1,none⟩=some (.int .i64 f):=n2.cell 1
    have p2:v.drew.cell? ⟨gh,2,none⟩=some (.int .i64 r):=n2.cell 2
    have p3:v.drew.cell? ⟨gh,3,none⟩=some (.int .i64 u):=n2.cell 3
    have p4:v.drew.cell? ⟨gh,4,none⟩=some (.int .i64 m):=n2.cell 4
    have hmm:=manyN_le (hasHead_img HH.out.1)
    have hhl:0 < manyN xs:=by have:=hasHead_len HH.out.1;unfold manyN;omega
    have HWL:=Lib.hid (whole_length xs)
    have B2:=Lib.hid b2
    have HR:=Lib.hid hr
    clear b2 hr
    go_region_held3 (fun w'=>w'.cell? ⟨gh,0,none⟩=some (.int .i64 s)∧w'.cell? ⟨gh,1,none⟩=some (.int .i64 f)∧w'.cell? ⟨gh,2,none⟩=some (.int .i64 r)∧w'.cell? ⟨gh,3,none⟩=some (.int .i64 u)∧w'.cell? ⟨gh,4,none⟩=some (.int .i64 m))
      (first
        | (go_split_ands;exact⟨(HA3.out _).cell 0,(HA3.out _).cell 1,(HA3.out _).cell 2,(HA3.out _).cell 3,(HA3.out _).cell 4⟩)
        | (go_split_ands;exact⟨HB3.out.cell 0,HB3.out.cell 1,HB3.out.cell 2,HB3.out.cell 3,HB3.out.cell 4⟩)
        | go_keep)
      ((go_at_call 133;refine(wholeCopy_any A n c xs _ hrd hn HH.out.1).mono ?_;rintro e w3 ⟨q,rfl,hq,hrow,b3⟩
        have HB3:Hid (HBox w3 gh ⟨s,f,r,u,m⟩):=n2.keep (b3.block gh hgl)
        have HA3:Hid (∀ o:Obj,HBox (w3.alloc o) gh ⟨s,f,r,u,m⟩):=fun o=>HB3.out.keep (Below.heap_alloc _ _ _ HB3.out.lt)
        have hq3:q < w3.heap.size:=(Array.getElem?_eq_some_iff.1 hrow).1
        have HROW:=Lib.hid hrow
        have HB:=Lib.hid (below_more B2.out.drew b3 B2.out.size)
        have hqv:v.heap.size≤q:=hq
        clear hq hrow b3))
    have HI0:Hid (ImAt (w3.alloc (.cells #[.int .i64 s,.int .i64 f,.int .i64 r,.int .i64 u,.int .i64 m,.slice (some ⟨q,0,none⟩) (manyN xs * 8) (manyN xs * 8)] 125)) w3.heap.size q ⟨s,f,r,u,m⟩ (whole xs)):=by
      rw[← HWL.out]
      exact⟨heap_alloc_new _ _,(Below.heap_alloc _ _ _ hq3).trans HROW.out,by omega⟩
    have HB4:=Lib.hid (HB.out.alloc HB.out.size (.cells #[.int .i64 s,.int .i64 f,.int .i64 r,.int .i64 u,.int .i64 m,.slice (some ⟨q,0,none⟩) (manyN xs * 8) (manyN xs * 8)] 125))
    have hlt3:w3.heap.size < (w3.alloc (.cells #[.int .i64 s,.int .i64 f,.int .i64 r,.int .i64 u,.int .i64 m,.slice (some ⟨q,0,none⟩) (manyN xs * 8) (manyN xs * 8)] 125)).heap.size:=by simp
    have s3:=HB.out.size
    have sv:=B2.out.size
    generalize (w3.alloc (.cells #[.int .i64 s,.int .i64 f,.int .i64 r,.int .i64 u,.int .i64 m,.slice (some ⟨q,0,none⟩) (manyN xs * 8) (manyN xs * 8)] 125))=v4 at *
    have hqw:w.heap.size≤q:=by omega
    have hpq:w3.heap.size≠q:=by omega
    clear HB HB3 HA3 HROW p0 p1 p2 p3 p4 n2 hrd hgl hq3 hqv
    generalize w3.heap.size=p at *
    have HOK:=Lib.hid (steps_ok HH.out.1)
    rw[HHO.out,← HWL.out] at HOK
    have HDA:=Lib.hid (drops_all HH.out.1)
    rw[HHO.out] at HDA
    have hll:=looseL_length xs
    have h512:(whole xs).length≤512:=by have:=HWL.out;omega
    have h8:8≤(whole xs).length:=by have:=HWL.out;omega
    go_wp2_with fail
    refine(hLo A n c xs v4 ((HR.out.below HB4.out).more HB4.out.size) hn hnc).mono ?_
    rintro e w5 ⟨G,cg,rfl,oG,b5⟩
    have H5:=HI0.out.below b5
    have B5:=below_more HB4.out b5 HB4.out.size
    have hGG:∀ g,G=some ⟨g,0,none⟩→g≠p∧g≠q:=by
      intro g hg
      subst hg
      have:=(oG.row g rfl).1
      have hql:=HI0.out.ltq
      omega
    go_wp2_with fail
    refine(dropAll_any p q v4.heap.size w5.heap.size G cg (looseL xs) (⟨s,f,r,u,m⟩,whole xs) w5 H5 HOK.out h512 (by omega) oG (Nat.le_refl _) hGG).mono ?_
    rintro e w6 ⟨rfl,H6,G6⟩
    have HO:=Lib.hid (clrHead_ok HH.out.1)
    have HLL:Hid ((clr2 xs).length=(whole xs).length):=by rw[HWL.out];exact clr2_length HH.out.1
    rw[← HDA.out.1] at HO
    rw[← HDA.out.2] at HLL
    have B6:=G6.toBelow B5 (by omega) (by omega)
    clear b5 oG H5 hGG G6 B5
    have HF:Hid (setCl (dropsC (looseL xs) (⟨s,f,r,u,m⟩,whole xs)).2 0 (hdW (endHead (dropsC (looseL xs) (⟨s,f,r,u,m⟩,whole xs)).1))=clearedL xs):=by
      rw[HDA.out.1,HDA.out.2,HN.out]
      exact rfl
    clear HDA HOK
    generalize dropsC (looseL xs) (⟨s,f,r,u,m⟩,whole xs)=st at *
    obtain⟨h6,o6⟩:=st
    simp only at H6
    have HO2:Hid (headB (endHead h6)=true):=HO.out
    have HL2:Hid (o6.length=(whole xs).length):=HLL.out
    have HF2:Hid (setCl o6 0 (hdW (endHead h6))=clearedL xs):=HF.out
    clear HO HLL HF
    go_wp2_with fail
    refine(writeHead_any p q h6 o6 w6 H6 HO2.out (by rw[HL2.out];exact h8)).mono ?_
    rintro e w7 ⟨rfl,H7,G7⟩
    have p5:w7.cell? ⟨p,5,none⟩=some (.slice (some ⟨q,0,none⟩) (Go.splice o6 0 (hdW (endHead h6))).length (Go.splice o6 0 (hdW (endHead h6))).length):=H7.cell 5
    have B7:=G7.toBelow B6 (by omega) (by omega)
    have HR7:=Lib.hid H7.row
    have lq7:=H7.ltq
    have HE:=Lib.hid ((splice_setCl o6 (hdW (endHead h6)) rfl).trans HF2.out)
    rw[HE.out] at p5 HR7
    have hcl:=clearedL_length xs
    clear H6 G7 H7
    generalize clearedL xs=ys at *
    go_wp2_with fail
    go_ret
    exact⟨_,_,_,rfl,Ow.ofRow HR7.out (by omega) hqw lq7,B7⟩
theorem implCleared_all:ClearedC:=implCleared_any implLoose_all
end Go.Proofs.YtibokhkohanoaabGreatDoor
