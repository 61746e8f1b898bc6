import Derived.Test.YtkmdidplmfdikaaDoorM6
set_option linter.all false
section
namespace Go.Proofs.YtkmdidplmfdikaaDoor
open Go.Ev
set_option maxRecDepth 100000
set_option linter.unusedSimpArgs false
set_option linter.unusedVariables false

def relax (pf:Int→Int→Int→Int→Int) (sp:List (Int × Int)) (p:Stt × Int) (Tb:List Int) (c:Int):List Int:=Tb.set ((nxt p.1 c).ix sp) (min (Tb.getD ((nxt p.1 c).ix sp) 0) (p.2+pf p.1.a p.1.b p.1.s c))
def relaxC (pf:Int→Int→Int→Int→Int) (sp:List (Int × Int)) (i:Nat) (Tb:List Int) (p:Stt × Int):List Int:=(offs (spot sp (i+1))).foldl (relax pf sp p) Tb
def level (pf:Int→Int→Int→Int→Int) (sp:List (Int × Int)) (Tb:List Int) (i:Nat):List Int:=(reachL sp i Tb).foldl (relaxC pf sp i) Tb
def startT (sp:List (Int × Int)) (ys:List Stt):List Int:=ys.foldl (fun T x=>T.set (x.ix sp) 0) (List.replicate ((sp.length - 1) * 75) farI)
def paidU (pf:Int→Int→Int→Int→Int) (sp:List (Int × Int)):Nat→List Int
  | 0=>startT sp (startsL sp)
  | k+1=>level pf sp (paidU pf sp k) (k+1)
def paidT (pf:Int→Int→Int→Int→Int) (sp:List (Int × Int)):List Int:=paidU pf sp (sp.length - 2)

theorem getD_set {Tb:List Int} {k m:Nat} {v:Int} (hk:k<Tb.length):(Tb.set k v).getD m 0=if k=m then v else Tb.getD m 0:=by
  by_cases e:k=m
  · subst e;rw [if_pos rfl];simp [List.getD,hk]
  · rw [if_neg e];simp only [List.getD];rw [List.getElem?_set_ne e]
structure WT (sp:List (Int × Int)) (Tb:List Int):Prop where
  len:Tb.length=(sp.length - 1) * 75
  bd : ∀ m,0≤Tb.getD m 0∧Tb.getD m 0≤farI
  ok : ∀ i a b s,1≤i→i<sp.length→a<5→b<5→s<3→tc Tb i a b s<farI→(stt sp i a b s).Ok sp
theorem ix_stt {sp:List (Int × Int)} {i a b s:Nat} : (stt sp i a b s).ix sp=(i - 1) * 75+(a * 15+b * 3+s):=by
  unfold stt Stt.ix
  dsimp only
  rw [show ((spot sp (i - 1)).1+(a:Int) - (spot sp (i - 1)).1).toNat=a from by omega,show ((spot sp i).1+(b:Int) - (spot sp i).1).toNat=b from by omega]
  omega
theorem stt_of {sp:List (Int × Int)} (hsp:SpotsOK sp) {x:Stt} (hx:x.Ok sp) : ∃ a b,a<5∧b<5∧x.s<3∧x=stt sp x.i a b x.s:=by
  obtain ⟨⟨h1,h2⟩,h3,h4,h5⟩:=hx
  obtain ⟨_,_,_,n1⟩:=hsp.at (i:=x.i - 1) (by omega)
  obtain ⟨_,_,_,n2⟩:=hsp.at h2
  refine ⟨(x.a - (spot sp (x.i - 1)).1).toNat,(x.b - (spot sp x.i).1).toNat,by omega,by omega,h5,?_⟩
  obtain ⟨i,a,b,s⟩:=x
  unfold stt
  dsimp only at *
  rw [show (spot sp (i - 1)).1+((a - (spot sp (i - 1)).1).toNat:Int)=a from by omega,show (spot sp i).1+((b - (spot sp i).1).toNat:Int)=b from by omega]
theorem ix_inj {sp:List (Int × Int)} {i a b s i' a' b' s':Nat} (hi:1≤i) (hi':1≤i') (ha:a<5) (hb:b<5) (hs:s<3) (ha':a'<5) (hb':b'<5) (hs':s'<3) (e:(i - 1) * 75+(a * 15+b * 3+s)=(i' - 1) * 75+(a' * 15+b' * 3+s')):i=i'∧a=a'∧b=b'∧s=s':=by
  omega
theorem WT.set {sp:List (Int × Int)} (hsp:SpotsOK sp) {Tb:List Int} (x:WT sp Tb) {y:Stt} (hy:y.Ok sp) {v:Int} (hv:0≤v∧v≤farI):WT sp (Tb.set (y.ix sp) v):=by
  have hl:=(hy.lt hsp.narrow).1
  have hlt:y.ix sp<Tb.length:=by rw [x.len];exact hl
  refine ⟨by rw [List.length_set,x.len],fun m=>?_,fun i a b s h1 h2 h3 h4 h5 h6=>?_⟩
  · rw [getD_set hlt]
    by_cases e:y.ix sp=m
    · rw [if_pos e];exact hv
    · rw [if_neg e];exact x.bd m
  · unfold tc at h6
    rw [getD_set hlt] at h6
    by_cases e:y.ix sp=(i - 1) * 75+(a * 15+b * 3+s)
    · obtain ⟨a',b',k1,k2,k3,k4⟩:=stt_of hsp hy
      have e':=e
      rw [k4,ix_stt] at e'
      obtain ⟨e1,e2,e3,e4⟩:=ix_inj (sp:=sp) hy.1.1 h1 k1 k2 k3 h3 h4 h5 e'
      rw [← e1,← e2,← e3,← e4,← k4];exact hy
    · rw [if_neg e] at h6;exact x.ok i a b s h1 h2 h3 h4 h5 h6
theorem mem_sgF {sp:List (Int × Int)} {i:Nat} {Tb:List Int} {a b:Nat} {p:Stt × Int} : ∀ {m:Nat},m≤3→p ∈ sgF sp i Tb a b m → ∃ s,3 - m≤s∧s<3∧p=(stt sp i a b s,tc Tb i a b s)∧tc Tb i a b s<farI
  | 0,_,h=>by cases h
  | m+1,hm,h=>by
    unfold sgF at h
    rcases List.mem_append.1 h with h|h
    · split at h
      · rename_i hf
        rw [List.mem_singleton] at h
        exact ⟨2 - m,by omega,by omega,h,hf⟩
      · cases h
    · obtain ⟨s,h1,h2,h3⟩:=mem_sgF (by omega) h
      exact ⟨s,by omega,h2,h3⟩
theorem mem_boF {sp:List (Int × Int)} {i:Nat} {Tb:List Int} {a:Nat} {p:Stt × Int} : ∀ {m:Nat},m≤5→p ∈ boF sp i Tb a m → ∃ b s,b<5∧s<3∧p=(stt sp i a b s,tc Tb i a b s)∧tc Tb i a b s<farI
  | 0,_,h=>by cases h
  | m+1,hm,h=>by
    unfold boF at h
    split at h
    · cases h
    rcases List.mem_append.1 h with h|h
    · obtain ⟨s,_,h2,h3⟩:=mem_sgF (by omega) h
      exact ⟨4 - m,s,by omega,h2,h3⟩
    · exact mem_boF (by omega) h
theorem mem_aoF {sp:List (Int × Int)} {i:Nat} {Tb:List Int} {p:Stt × Int} : ∀ {m:Nat},m≤5→p ∈ aoF sp i Tb m → ∃ a b s,a<5∧b<5∧s<3∧p=(stt sp i a b s,tc Tb i a b s)∧tc Tb i a b s<farI
  | 0,_,h=>by cases h
  | m+1,hm,h=>by
    unfold aoF at h
    rcases List.mem_append.1 h with h|h
    · obtain ⟨b,s,h3⟩:=mem_boF (by omega) h
      exact ⟨4 - m,b,s,by omega,h3⟩
    · exact mem_aoF (by omega) h
theorem yFw {sp:List (Int × Int)} {i:Nat} {Tb:List Int} (w:WT sp Tb) (hi:1≤i∧i<sp.length) {p:Stt × Int} (h:p ∈ reachL sp i Tb):p.1.Ok sp∧p.1.i=i∧p.2=Tb.getD (p.1.ix sp) 0∧0≤p.2∧p.2<farI:=by
  obtain ⟨a,b,s,h1,h2,h3,rfl,h4⟩:=mem_aoF (Nat.le_refl 5) h
  have hb:=w.bd ((i - 1) * 75+(a * 15+b * 3+s))
  refine ⟨w.ok i a b s hi.1 hi.2 h1 h2 h3 h4,rfl,?_,hb.1,h4⟩
  show tc Tb i a b s=Tb.getD ((stt sp i a b s).ix sp) 0
  rw [ix_stt];rfl
end Go.Proofs.YtkmdidplmfdikaaDoor
end

section
namespace Go.Proofs.YtkmdidplmfdikaaDoor
open Go.Ev
set_option maxRecDepth 100000
set_option linter.unusedSimpArgs false
set_option linter.unusedVariables false

def tb (sp:List (Int × Int)) (Tb:List Int) (x:Stt):Int:=Tb.getD (x.ix sp) 0
theorem tb_set {sp:List (Int × Int)} (hsp:SpotsOK sp) {Tb:List Int} (w:WT sp Tb) {y:Stt} (hy:y.Ok sp) {v:Int} {x:Stt} (hx:x.Ok sp):(x=y→tb sp (Tb.set (y.ix sp) v) x=v)∧(x≠y→tb sp (Tb.set (y.ix sp) v) x=tb sp Tb x):=by
  have hlt:y.ix sp<Tb.length:=by rw [w.len];exact (hy.lt hsp.narrow).1
  unfold tb
  rw [getD_set hlt]
  exact ⟨fun e=>by rw [e,if_pos rfl],fun e=>by rw [if_neg (fun e2=>e (hx.inj hsp.narrow hy e2.symm))]⟩
structure RL (pf:Int→Int→Int→Int→Int) (sp:List (Int × Int)) (i:Nat) (qs:List ((Stt × Int) × Int)) (Tb T:List Int):Prop where
  wt:WT sp T
  same : ∀ x,x.Ok sp→x.i≠i+1→tb sp T x=tb sp Tb x
  mono : ∀ x,x.Ok sp→tb sp T x≤tb sp Tb x
  le : ∀ p c,(p,c) ∈ qs→tb sp T (nxt p.1 c)≤p.2+pf p.1.a p.1.b p.1.s c
  att : ∀ y,y.Ok sp→tb sp T y=tb sp Tb y ∨ ∃ p c,(p,c) ∈ qs∧nxt p.1 c=y∧tb sp T y=p.2+pf p.1.a p.1.b p.1.s c
structure StepIn (pf:Int→Int→Int→Int→Int) (sp:List (Int × Int)) (i:Nat) (q:(Stt × Int) × Int):Prop where
  ok:q.1.1.Ok sp
  at':q.1.1.i=i
  nx:i+1<sp.length
  c:(spot sp (i+1)).1≤q.2∧q.2≤(spot sp (i+1)).2
  bd:0≤q.1.2∧q.1.2<farI
  pf:0≤pf q.1.1.a q.1.1.b q.1.1.s q.2
theorem StepIn.nok {pf:Int→Int→Int→Int→Int} {sp:List (Int × Int)} {i:Nat} {q:(Stt × Int) × Int} (x:StepIn pf sp i q):(nxt q.1.1 q.2).Ok sp:=
  xIv x.ok (by rw [x.at'];exact x.nx) (by rw [x.at'];exact x.c)
theorem relax_wt {pf:Int→Int→Int→Int→Int} {sp:List (Int × Int)} (hsp:SpotsOK sp) {i:Nat} {Tb:List Int} (w:WT sp Tb) {q:(Stt × Int) × Int} (x:StepIn pf sp i q):WT sp (relax pf sp q.1 Tb q.2):=by
  refine w.set hsp x.nok ?_
  have h1:=w.bd ((nxt q.1.1 q.2).ix sp)
  have h2:=x.bd
  have h3:=x.pf
  omega
theorem RL.of {pf:Int→Int→Int→Int→Int} {sp:List (Int × Int)} (hsp:SpotsOK sp) {i:Nat} : ∀ (qs:List ((Stt × Int) × Int)) (Tb:List Int),WT sp Tb→(∀ q ∈ qs,StepIn pf sp i q)→RL pf sp i qs Tb (qs.foldl (fun T q=>relax pf sp q.1 T q.2) Tb)
  | [],Tb,w,_=>⟨w,fun _ _ _=>rfl,fun _ _=>Int.le_refl _,fun _ _ h=>(by cases h),fun _ _=>.inl rfl⟩
  | q :: qs,Tb,w,h=>by
    have hq:=h q (by simp)
    have hn:=hq.nok
    have w1:=relax_wt hsp w hq
    have ih:=RL.of hsp qs (relax pf sp q.1 Tb q.2) w1 fun r hr=>h r (by simp [hr])
    have hset : ∀ x,x.Ok sp→(x=nxt q.1.1 q.2→tb sp (relax pf sp q.1 Tb q.2) x=min (tb sp Tb (nxt q.1.1 q.2)) (q.1.2+pf q.1.1.a q.1.1.b q.1.1.s q.2))∧(x≠nxt q.1.1 q.2→tb sp (relax pf sp q.1 Tb q.2) x=tb sp Tb x):=fun x hx=>tb_set hsp w hn hx
    have hni:(nxt q.1.1 q.2).i=i+1:=by show q.1.1.i+1=_;rw [hq.at']
    rw [List.foldl_cons]
    refine ⟨ih.wt,fun x hx hi=>?_,fun x hx=>?_,fun p c hp=>?_,fun y hy=>?_⟩
    · rw [ih.same x hx hi,(hset x hx).2 (fun e=>hi (by rw [e,hni]))]
    · have h1:=ih.mono x hx
      by_cases e:x=nxt q.1.1 q.2
      · have h2:=(hset x hx).1 e
        rw [← e] at h2
        omega
      · rw [(hset x hx).2 e] at h1;exact h1
    · rcases List.mem_cons.1 hp with hp|hp
      · have h1:=ih.mono _ hn
        rw [(hset _ hn).1 rfl] at h1
        subst hp
        have h2:tb sp (qs.foldl (fun T q=>relax pf sp q.1 T q.2) (relax pf sp p Tb c)) (nxt p.1 c)≤min (tb sp Tb (nxt p.1 c)) (p.2+pf p.1.a p.1.b p.1.s c):=h1
        show tb sp (qs.foldl (fun T q=>relax pf sp q.1 T q.2) (relax pf sp p Tb c)) (nxt p.1 c)≤p.2+pf p.1.a p.1.b p.1.s c
        omega
      · exact ih.le p c hp
    · rcases ih.att y hy with h1|⟨p,c,h1,h2,h3⟩
      · by_cases e:y=nxt q.1.1 q.2
        · have h2:=(hset y hy).1 e
          rw [← e] at h2
          rw [h2] at h1
          by_cases hm:tb sp Tb y≤q.1.2+pf q.1.1.a q.1.1.b q.1.1.s q.2
          · exact .inl (by omega)
          · exact .inr ⟨q.1,q.2,by simp,e.symm,by omega⟩
        · rw [(hset y hy).2 e] at h1;exact .inl h1
      · exact .inr ⟨p,c,by simp [h1],h2,h3⟩
def stepsOf (sp:List (Int × Int)) (i:Nat) (ps:List (Stt × Int)):List ((Stt × Int) × Int):=ps.flatMap fun p=>(offs (spot sp (i+1))).map fun c=>(p,c)
theorem xSv (pf:Int→Int→Int→Int→Int) (sp:List (Int × Int)) (i:Nat) (p:Stt × Int) : ∀ (cs:List Int) (Tb:List Int),cs.foldl (relax pf sp p) Tb=(cs.map fun c=>(p,c)).foldl (fun T q=>relax pf sp q.1 T q.2) Tb
  | [],_=>rfl
  | c :: cs,Tb=>by rw [List.foldl_cons,List.map_cons,List.foldl_cons];exact xSv pf sp i p cs _
theorem level_eq (pf:Int→Int→Int→Int→Int) (sp:List (Int × Int)) (i:Nat) : ∀ (ps:List (Stt × Int)) (Tb:List Int),ps.foldl (relaxC pf sp i) Tb=(stepsOf sp i ps).foldl (fun T q=>relax pf sp q.1 T q.2) Tb
  | [],_=>rfl
  | p :: ps,Tb=>by
    rw [List.foldl_cons]
    unfold stepsOf
    rw [List.flatMap_cons,List.foldl_append]
    have:=level_eq pf sp i ps (relaxC pf sp i Tb p)
    unfold stepsOf at this
    rw [this]
    unfold relaxC
    rw [xSv pf sp i p]
theorem yCv {sp:List (Int × Int)} {i:Nat} {ps:List (Stt × Int)} {p:Stt × Int} {c:Int} : (p,c) ∈ stepsOf sp i ps ↔ p ∈ ps∧(spot sp (i+1)).1≤c∧c≤(spot sp (i+1)).2:=by
  unfold stepsOf
  simp only [List.mem_flatMap,List.mem_map,zWy]
  constructor
  · rintro ⟨q,hq,d,hd,e⟩
    cases e
    exact ⟨hq,hd⟩
  · rintro ⟨h1,h2⟩
    exact ⟨p,h1,c,h2,rfl⟩

structure PD (pf:Int→Int→Int→Int→Int) (sp:List (Int × Int)) (k:Nat) (Tb:List Int):Prop where
  wt:WT sp Tb
  one : ∀ x,x.Ok sp→x.i=1→tb sp Tb x=if x.s=0 then 0 else farI
  far : ∀ x,x.Ok sp→k<x.i→tb sp Tb x=farI
  le : ∀ x c,x.Ok sp→x.i<k→tb sp Tb x<farI→(spot sp (x.i+1)).1≤c→c≤(spot sp (x.i+1)).2→tb sp Tb (nxt x c)≤tb sp Tb x+pf x.a x.b x.s c
  ex : ∀ y,y.Ok sp→2≤y.i→tb sp Tb y=farI ∨ ∃ x,x.Ok sp∧x.i+1=y.i∧nxt x y.b=y∧tb sp Tb x<farI∧tb sp Tb y=tb sp Tb x+pf x.a x.b x.s y.b
  sm : ∀ x,x.Ok sp→tb sp Tb x<farI→tb sp Tb x≤5000000 * (x.i:Int)
  full : ∀ i u v,1≤i→i≤k→i<sp.length→(spot sp (i - 1)).1≤u∧u≤(spot sp (i - 1)).2→(spot sp i).1≤v∧v≤(spot sp i).2 → ∃ s,s<3∧tb sp Tb ⟨i,u,v,s⟩<farI

theorem sgF_mem {sp:List (Int × Int)} {i:Nat} {Tb:List Int} {a b s:Nat} (hf:tc Tb i a b s<farI) : ∀ {m:Nat},m≤3→3 - m≤s→s<3→(stt sp i a b s,tc Tb i a b s) ∈ sgF sp i Tb a b m
  | 0,_,h1,h2=>by omega
  | m+1,hm,h1,h2=>by
    unfold sgF
    by_cases e:2 - m=s
    · rw [e,if_pos hf];simp
    · exact List.mem_append.2 (.inr (sgF_mem hf (by omega) (by omega) h2))
theorem boF_mem {sp:List (Int × Int)} {i:Nat} {Tb:List Int} {a b s:Nat} (hf:tc Tb i a b s<farI) (hs:s<3) (hn : ∀ b',b'≤b → ¬ NoneT Tb i a b') : ∀ {m:Nat},m≤5→5 - m≤b→b<5→(stt sp i a b s,tc Tb i a b s) ∈ boF sp i Tb a m
  | 0,_,h1,h2=>by omega
  | m+1,hm,h1,h2=>by
    unfold boF
    rw [if_neg (hn _ (by omega))]
    by_cases e:4 - m=b
    · rw [e];exact List.mem_append.2 (.inl (sgF_mem hf (Nat.le_refl 3) (by omega) hs))
    · exact List.mem_append.2 (.inr (boF_mem hf hs hn (by omega) (by omega) h2))
theorem aoF_mem {sp:List (Int × Int)} {i:Nat} {Tb:List Int} {a b s:Nat} (hf:tc Tb i a b s<farI) (hs:s<3) (hb:b<5) (hn : ∀ b',b'≤b → ¬ NoneT Tb i a b') : ∀ {m:Nat},m≤5→5 - m≤a→a<5→(stt sp i a b s,tc Tb i a b s) ∈ aoF sp i Tb m
  | 0,_,h1,h2=>by omega
  | m+1,hm,h1,h2=>by
    unfold aoF
    by_cases e:4 - m=a
    · rw [e];exact List.mem_append.2 (.inl (boF_mem hf hs hn (Nat.le_refl 5) (by omega) hb))
    · exact List.mem_append.2 (.inr (aoF_mem hf hs hb hn (by omega) (by omega) h2))
theorem PD.reach {pf:Int→Int→Int→Int→Int} {sp:List (Int × Int)} (hsp:SpotsOK sp) {k:Nat} {Tb:List Int} (P:PD pf sp k Tb) {x:Stt} (hx:x.Ok sp) (hk:x.i≤k) (hf:tb sp Tb x<farI):(x,tb sp Tb x) ∈ reachL sp x.i Tb:=by
  obtain ⟨a,b,h1,h2,h3,h4⟩:=stt_of hsp hx
  have e:tc Tb x.i a b x.s=tb sp Tb x:=by
    unfold tb tc
    rw [h4,ix_stt];rfl
  have:=aoF_mem (sp:=sp) (i:=x.i) (Tb:=Tb) (a:=a) (b:=b) (s:=x.s) (by rw [e];exact hf) h3 h2 (fun b' hb' hn=>by
    obtain ⟨⟨i1,i2⟩,i3,i4,_⟩:=hx
    have ha:x.a=(spot sp (x.i - 1)).1+(a:Int):=congrArg Stt.a h4
    have hb:x.b=(spot sp x.i).1+(b:Int):=congrArg Stt.b h4
    obtain ⟨s,hs,hlt⟩:=P.full x.i x.a ((spot sp x.i).1+(b':Int)) i1 hk i2 i3 ⟨by omega,by omega⟩
    have e2:tb sp Tb ⟨x.i,x.a,(spot sp x.i).1+(b':Int),s⟩=tc Tb x.i a b' s:=by
      rw [ha]
      show Tb.getD ((stt sp x.i a b' s).ix sp) 0=_
      rw [ix_stt];rfl
    rw [e2] at hlt
    obtain ⟨n0,n1,n2⟩:=hn
    rcases (show s=0∨s=1∨s=2 by omega) with rfl|rfl|rfl <;> omega) (Nat.le_refl 5) (by omega) h1
  rw [e] at this
  rw [← h4] at this
  exact this

theorem level_rl {pf:Int→Int→Int→Int→Int} {sp:List (Int × Int)} (hsp:SpotsOK sp) (hpf : ∀ (a b s c:Int),Off a→Off b→Off c→0≤pf a b s c∧pf a b s c≤5000000) {k:Nat} {Tb:List Int} (w:WT sp Tb) (hk:1≤k∧k+1<sp.length) :
    (∀ q ∈ stepsOf sp k (reachL sp k Tb),StepIn pf sp k q)∧RL pf sp k (stepsOf sp k (reachL sp k Tb)) Tb (level pf sp Tb k):=by
  have hin : ∀ q ∈ stepsOf sp k (reachL sp k Tb),StepIn pf sp k q:=fun q hq=>by
    obtain ⟨p,c⟩:=q
    obtain ⟨h1,h2⟩:=yCv.1 hq
    obtain ⟨h3,h4,h5,h6,h7⟩:=yFw w ⟨hk.1,by omega⟩ h1
    refine ⟨h3,h4,hk.2,h2,⟨h6,h7⟩,?_⟩
    obtain ⟨⟨i1,i2⟩,i3,i4,_⟩:=h3
    obtain ⟨⟨a1,a2⟩,⟨a3,a4⟩,_,_⟩:=hsp.at (i:=p.1.i - 1) (by omega)
    obtain ⟨⟨b1,b2⟩,⟨b3,b4⟩,_,_⟩:=hsp.at i2
    obtain ⟨⟨c1,c2⟩,⟨c3,c4⟩,_,_⟩:=hsp.at hk.2
    exact (hpf p.1.a p.1.b p.1.s c ⟨by omega,by omega⟩ ⟨by omega,by omega⟩ ⟨by omega,by omega⟩).1
  refine ⟨hin,?_⟩
  unfold level
  rw [level_eq]
  exact RL.of hsp _ _ w hin
theorem PD.next {pf:Int→Int→Int→Int→Int} {sp:List (Int × Int)} (hsp:SpotsOK sp) (hpf : ∀ (a b s c:Int),Off a→Off b→Off c→0≤pf a b s c∧pf a b s c≤5000000) {k:Nat} {Tb:List Int} (P:PD pf sp k Tb) (hk:1≤k∧k+1<sp.length):PD pf sp (k+1) (level pf sp Tb k):=by
  obtain ⟨hin,R⟩:=level_rl hsp hpf P.wt hk
  have n24:=hsp.n24
  have key : ∀ x c,x.Ok sp→x.i=k→tb sp Tb x<farI→(spot sp (k+1)).1≤c→c≤(spot sp (k+1)).2→((x,tb sp Tb x),c) ∈ stepsOf sp k (reachL sp k Tb):=fun x c hx hi hf h1 h2=>by
    refine yCv.2 ⟨?_,h1,h2⟩
    have:=P.reach hsp hx (by omega) hf
    rwa [hi] at this
  refine ⟨R.wt,fun x hx hi=>?_,fun x hx hi=>?_,fun x c hx hi hf h1 h2=>?_,fun y hy hi=>?_,fun x hx hf=>?_,fun i u v h1 h2 h3 h4 h5=>?_⟩
  · rw [R.same x hx (by omega)];exact P.one x hx hi
  · rw [R.same x hx (by omega)];exact P.far x hx (by omega)
  · rw [R.same x hx (by omega)] at hf ⊢
    by_cases e:x.i=k
    · rw [e] at h1 h2
      exact R.le (x,tb sp Tb x) c (key x c hx e hf h1 h2)
    · have:=P.le x c hx (by omega) hf h1 h2
      have hn:=xIv hx (by omega) ⟨h1,h2⟩
      rw [R.same _ hn (by show x.i+1≠k+1;omega)]
      exact this
  · by_cases e:y.i=k+1
    · rcases R.att y hy with h1|⟨p,c,h1,h2,h3⟩
      · rw [P.far y hy (by omega)] at h1;exact .inl h1
      · have hp:=hin _ h1
        obtain ⟨h4,_⟩:=yCv.1 h1
        obtain ⟨m1,m2,m3,m4,m5⟩:=yFw P.wt ⟨hk.1,by omega⟩ h4
        have m3':p.2=tb sp Tb p.1:=m3
        have hb:y.b=c:=by rw [← h2];rfl
        refine .inr ⟨p.1,m1,by rw [m2,e],by rw [hb];exact h2,?_,?_⟩
        · rw [R.same _ m1 (by omega)];omega
        · rw [R.same _ m1 (by omega),h3,hb,m3']
    · rw [R.same y hy e]
      rcases P.ex y hy hi with h1|⟨x,x1,x2,x3,x4,x5⟩
      · exact .inl h1
      · refine .inr ⟨x,x1,x2,x3,?_,?_⟩
        · by_cases e2:x.i=k+1
          · have:=P.far x x1 (by omega);omega
          · rw [R.same x x1 e2];exact x4
        · by_cases e2:x.i=k+1
          · have:=P.far x x1 (by omega);omega
          · rw [R.same x x1 e2];exact x5
  · rcases R.att x hx with h1|⟨p,c,h1,h2,h3⟩
    · rw [h1] at hf ⊢;exact P.sm x hx hf
    · have hp:=hin _ h1
      obtain ⟨h4,hc⟩:=yCv.1 h1
      obtain ⟨m1,m2,m3,m4,m5⟩:=yFw P.wt ⟨hk.1,by omega⟩ h4
      have m3':p.2=tb sp Tb p.1:=m3
      have hs:=P.sm p.1 m1 (by omega)
      obtain ⟨⟨i1,i2⟩,i3,i4,_⟩:=m1
      obtain ⟨⟨a1,a2⟩,⟨a3,a4⟩,_,_⟩:=hsp.at (i:=p.1.i - 1) (by omega)
      obtain ⟨⟨b1,b2⟩,⟨b3,b4⟩,_,_⟩:=hsp.at i2
      obtain ⟨⟨c1,c2⟩,⟨c3,c4⟩,_,_⟩:=hsp.at hk.2
      have:=(hpf p.1.a p.1.b p.1.s c ⟨by omega,by omega⟩ ⟨by omega,by omega⟩ ⟨by omega,by omega⟩).2
      have hi:x.i=k+1:=by rw [← h2];show p.1.i+1=_;rw [m2]
      rw [h3,hi]
      omega
  · by_cases e:i=k+1
    · subst e
      obtain ⟨d1,d2,d3,d4⟩:=hsp.at (i:=k - 1) (by omega)
      obtain ⟨s,hs,hlt⟩:=P.full k (spot sp (k - 1)).1 u hk.1 (Nat.le_refl k) (by omega) ⟨Int.le_refl _,d3⟩ (by simpa using h4)
      have hx:(⟨k,(spot sp (k - 1)).1,u,s⟩:Stt).Ok sp:=⟨⟨hk.1,by show k<_;omega⟩,⟨Int.le_refl _,d3⟩,by simpa using h4,hs⟩
      have hle:=R.le (⟨k,(spot sp (k - 1)).1,u,s⟩,tb sp Tb ⟨k,(spot sp (k - 1)).1,u,s⟩) v (key _ v hx rfl hlt h5.1 h5.2)
      have hsm:=P.sm _ hx hlt
      obtain ⟨⟨a1,a2⟩,⟨a3,a4⟩,_,_⟩:=hsp.at (i:=k - 1) (by omega)
      obtain ⟨⟨b1,b2⟩,⟨b3,b4⟩,_,_⟩:=hsp.at (i:=k) (by omega)
      obtain ⟨⟨c1,c2⟩,⟨c3,c4⟩,_,_⟩:=hsp.at hk.2
      have h4':(spot sp k).1≤u∧u≤(spot sp k).2:=by simpa using h4
      have hpf2:=(hpf (spot sp (k - 1)).1 u s v ⟨by omega,by omega⟩ ⟨by omega,by omega⟩ ⟨by omega,by omega⟩).2
      have hn:=xIv hx (c:=v) hk.2 h5
      have e3:nxt ⟨k,(spot sp (k - 1)).1,u,s⟩ v=⟨k+1,u,v,(nxt ⟨k,(spot sp (k - 1)).1,u,s⟩ v).s⟩:=rfl
      refine ⟨(nxt ⟨k,(spot sp (k - 1)).1,u,s⟩ v).s,hn.2.2.2,?_⟩
      rw [← e3]
      have h5':tb sp (level pf sp Tb k) (nxt ⟨k,(spot sp (k - 1)).1,u,s⟩ v)≤tb sp Tb ⟨k,(spot sp (k - 1)).1,u,s⟩+pf (spot sp (k - 1)).1 u s v:=hle
      have hsm':tb sp Tb ⟨k,(spot sp (k - 1)).1,u,s⟩≤5000000 * (k:Int):=hsm
      unfold farI
      omega
    · obtain ⟨s,hs,hlt⟩:=P.full i u v h1 (by omega) h3 h4 h5
      have hx:(⟨i,u,v,s⟩:Stt).Ok sp:=⟨⟨h1,h3⟩,h4,h5,hs⟩
      exact ⟨s,hs,by rw [R.same _ hx (by show i≠k+1;exact e)];exact hlt⟩

open Classical in
theorem startFold {sp:List (Int × Int)} (hsp:SpotsOK sp) : ∀ (ys:List Stt) (Tb:List Int),WT sp Tb→(∀ y ∈ ys,y.Ok sp)→WT sp (ys.foldl (fun T x=>T.set (x.ix sp) 0) Tb) ∧ ∀ x,x.Ok sp→tb sp (ys.foldl (fun T x=>T.set (x.ix sp) 0) Tb) x=if x ∈ ys then 0 else tb sp Tb x
  | [],Tb,w,_=>⟨w,fun x _=>by rw [if_neg (by simp)];rfl⟩
  | y :: ys,Tb,w,h=>by
    have hy:=h y (by simp)
    have w1:=w.set hsp hy (v:=0) ⟨Int.le_refl _,by unfold farI;omega⟩
    obtain ⟨i1,i2⟩:=startFold hsp ys _ w1 fun z hz=>h z (by simp [hz])
    refine ⟨i1,fun x hx=>?_⟩
    rw [List.foldl_cons,i2 x hx]
    by_cases e:x ∈ ys
    · rw [if_pos e,if_pos (by simp [e])]
    · rw [if_neg e]
      by_cases e2:x=y
      · rw [(tb_set hsp w hy hx).1 e2,if_pos (by simp [e2])]
      · rw [(tb_set hsp w hy hx).2 e2,if_neg (by simp [e,e2])]
theorem WT.rep {sp:List (Int × Int)} : WT sp (List.replicate ((sp.length - 1) * 75) farI):=by
  have hg : ∀ m,(List.replicate ((sp.length - 1) * 75) farI).getD m 0=farI∨(sp.length - 1) * 75≤m:=fun m=>by
    by_cases h:m<(sp.length - 1) * 75
    · left;simp [List.getD,List.getElem?_replicate,h]
    · right;omega
  refine ⟨by simp,fun m=>?_,fun i a b s h1 h2 h3 h4 h5 h6=>?_⟩
  · rcases hg m with h|h
    · rw [h];unfold farI;omega
    · rw [show (List.replicate ((sp.length - 1) * 75) farI).getD m 0=0 from by simp only [List.getD];rw [List.getElem?_eq_none (by simpa using h)];rfl];unfold farI;omega
  · unfold tc at h6
    have hlt:(i - 1) * 75+(a * 15+b * 3+s)<(sp.length - 1) * 75:=by
      have:=Nat.mul_le_mul_right 75 (show i - 1+1≤sp.length - 1 by omega)
      omega
    rcases hg ((i - 1) * 75+(a * 15+b * 3+s)) with h|h
    · rw [h] at h6;omega
    · omega
theorem xUx {sp:List (Int × Int)} {x:Stt} (hx:x.Ok sp):x ∈ startsL sp ↔ x.i=1∧x.s=0:=by
  unfold startsL
  rw [List.mem_map]
  constructor
  · rintro ⟨p,_,rfl⟩;exact ⟨rfl,rfl⟩
  · rintro ⟨h1,h2⟩
    obtain ⟨i,a,b,s⟩:=x
    obtain ⟨_,h3,h4,_⟩:=hx
    dsimp only at h1 h2 h3 h4
    subst h1
    subst h2
    exact ⟨(a,b),mem_pairs2.2 ⟨h3,h4⟩,rfl⟩
theorem PD.start {pf:Int→Int→Int→Int→Int} {sp:List (Int × Int)} (hsp:SpotsOK sp):PD pf sp 1 (startT sp (startsL sp)):=by
  have n2:=hsp.n2
  obtain ⟨w,h⟩:=startFold hsp (startsL sp) _ WT.rep fun y hy=>xRv hsp hy
  have hrep : ∀ x,x.Ok sp→tb sp (List.replicate ((sp.length - 1) * 75) farI) x=farI:=fun x hx=>by
    have:=(hx.lt hsp.narrow).1
    unfold tb
    simp [List.getD,List.getElem?_replicate,this]
  have hv : ∀ x,x.Ok sp→tb sp (startT sp (startsL sp)) x=if x.i=1∧x.s=0 then 0 else farI:=fun x hx=>by
    have:=h x hx
    unfold startT
    rw [this]
    by_cases e:x ∈ startsL sp
    · rw [if_pos e,if_pos ((xUx hx).1 e)]
    · rw [if_neg e,if_neg (fun k=>e ((xUx hx).2 k)),hrep x hx]
  refine ⟨w,fun x hx hi=>?_,fun x hx hi=>?_,fun x c hx hi=>?_,fun y hy hi=>?_,fun x hx hf=>?_,fun i u v h1 h2 h3 h4 h5=>?_⟩
  · rw [hv x hx]
    by_cases e:x.s=0
    · rw [if_pos ⟨hi,e⟩,if_pos e]
    · rw [if_neg (fun k=>e k.2),if_neg e]
  · rw [hv x hx,if_neg (by omega)]
  · have:=hx.1.1;omega
  · exact .inl (by rw [hv y hy,if_neg (by omega)])
  · rw [hv x hx] at hf ⊢
    split
    · omega
    · rename_i e;rw [if_neg e] at hf;omega
  · have:i=1:=by omega
    subst this
    refine ⟨0,by decide,?_⟩
    rw [hv ⟨1,u,v,0⟩ ⟨⟨Nat.le_refl 1,h3⟩,h4,h5,(show 0<3 from by decide)⟩,if_pos ⟨rfl,rfl⟩]
    unfold farI;omega
theorem PD.all {pf:Int→Int→Int→Int→Int} {sp:List (Int × Int)} (hsp:SpotsOK sp) (hpf : ∀ (a b s c:Int),Off a→Off b→Off c→0≤pf a b s c∧pf a b s c≤5000000) : ∀ k,k+1<sp.length→PD pf sp (k+1) (paidU pf sp k)
  | 0,_=>PD.start hsp
  | k+1,hk=>(PD.all hsp hpf k (by omega)).next hsp hpf ⟨by omega,hk⟩
theorem PD.last {pf:Int→Int→Int→Int→Int} {sp:List (Int × Int)} (hsp:SpotsOK sp) (hpf : ∀ (a b s c:Int),Off a→Off b→Off c→0≤pf a b s c∧pf a b s c≤5000000):PD pf sp (sp.length - 1) (paidT pf sp):=by
  have n2:=hsp.n2
  have:=PD.all hsp hpf (sp.length - 2) (by omega)
  rwa [show sp.length - 2+1=sp.length - 1 from by omega] at this
theorem PD.ne {pf:Int→Int→Int→Int→Int} {sp:List (Int × Int)} (hsp:SpotsOK sp) {k i:Nat} {Tb:List Int} (P:PD pf sp k Tb) (hi:1≤i∧i≤k∧i<sp.length):0<(reachL sp i Tb).length:=by
  obtain ⟨_,_,h0,_⟩:=hsp.at (i:=i - 1) (by omega)
  obtain ⟨_,_,h1,_⟩:=hsp.at (i:=i) hi.2.2
  obtain ⟨s,hs,hlt⟩:=P.full i (spot sp (i - 1)).1 (spot sp i).1 hi.1 hi.2.1 hi.2.2 ⟨Int.le_refl _,h0⟩ ⟨Int.le_refl _,h1⟩
  exact List.length_pos_of_mem (P.reach hsp (x:=⟨i,(spot sp (i - 1)).1,(spot sp i).1,s⟩) ⟨⟨hi.1,hi.2.2⟩,⟨Int.le_refl _,h0⟩,⟨Int.le_refl _,h1⟩,hs⟩ hi.2.1 hlt)
end Go.Proofs.YtkmdidplmfdikaaDoor
end

section
namespace Go.Ev
section
variable {P:Program}
def SlAt (h:H) (G:List AO) (v:AV) (sz e len:Nat) (cs:List AV) (o:Option Nat):Prop:=
  cs.length=len * sz∧match o with
    | none=>len=0∧v = .nils
    | some idx=>v = .sl (nx h idx) 0 len none sz∧G[idx]? = some (.cells (zAy cs) e)
end
end Go.Ev
end

section
namespace Go.Ev
abbrev KT :=Nat→Option (Nat × AO)
def kt (T:KT) (k:Nat) (x:Option (Nat × AO)):KT:=fun i=>if i=k then x else T i
structure Held (L:List AO) (T:KT):Prop where
  at' : ∀ k p ob,T k=some (p,ob)→L[p]? = some ob
  inj : ∀ k k' p ob ob',T k=some (p,ob)→T k'=some (p,ob')→k=k'
section
variable {P:Program} {L:List AO} {T:KT}
def SlK (h:H) (T:KT) (k:Nat) (v:AV) (sz e len:Nat) (cs:List AV):Prop:=
  cs.length=len * sz∧((len=0∧v = .nils∧T k=none) ∨ ∃ idx,v = .sl (nx h idx) 0 len none sz∧T k=some (idx,.cells (zAy cs) e))
end
end Go.Ev
namespace Go.Ev
end Go.Ev
end

section
namespace Go.Proofs.YtkmdidplmfdikaaDoor
open Go.Ev
set_option maxRecDepth 100000
set_option linter.unusedSimpArgs false
set_option linter.unusedVariables false
set_option maxHeartbeats 4000000

theorem tEvT19 :type_of% (And.intro (And.intro (And.intro (And.intro (And.intro (@zSv) (And.intro (@ia_2) (@sz_2))) (And.intro (And.intro (@ze_2) (@ia_3)) (And.intro (@sz_3) (@ze_3)))) (And.intro (And.intro (@zSy) (And.intro (@zTx) (@zRx))) (And.intro (And.intro (@zOv) (@zVw)) (And.intro (@zUv) (@zVx))))) (And.intro (And.intro (And.intro (@zZv) (And.intro (@zZw) (@zSx))) (And.intro (And.intro (@zSz) (@zSw)) (And.intro (@zXv) (@zUz)))) (And.intro (And.intro (And.intro (@yOv) (@yOw)) (And.intro (@yOx) (@yLy))) (And.intro (And.intro (@yKz) (@wAy)) (And.intro (@yOz) (@xGz)))))) (And.intro (And.intro (And.intro (And.intro (@xKz) (And.intro (@yDv) (@ze_112))) (And.intro (And.intro (@ia_110) (@sz_110)) (And.intro (@xKy) (@xFv)))) (And.intro (And.intro (And.intro (@zXy) (@zXz)) (And.intro (@zOw) (@zOx))) (And.intro (And.intro (@zOy) (@zOz)) (And.intro (@zMy) (@zMz))))) (And.intro (And.intro (And.intro (@zRz) (And.intro (@zLw) (@zLx))) (And.intro (And.intro (@zOv) (@yEx)) (And.intro (@yCy) (@pb_76)))) (And.intro (And.intro (And.intro (@pb_64) (@xMz)) (And.intro (@pb_42) (@xLv))) (And.intro (And.intro (@pb_56) (@xLw)) (And.intro (@xMy) (@yUw))))))):=And.intro (And.intro (And.intro (And.intro (And.intro (@zSv) (And.intro (@ia_2) (@sz_2))) (And.intro (And.intro (@ze_2) (@ia_3)) (And.intro (@sz_3) (@ze_3)))) (And.intro (And.intro (@zSy) (And.intro (@zTx) (@zRx))) (And.intro (And.intro (@zOv) (@zVw)) (And.intro (@zUv) (@zVx))))) (And.intro (And.intro (And.intro (@zZv) (And.intro (@zZw) (@zSx))) (And.intro (And.intro (@zSz) (@zSw)) (And.intro (@zXv) (@zUz)))) (And.intro (And.intro (And.intro (@yOv) (@yOw)) (And.intro (@yOx) (@yLy))) (And.intro (And.intro (@yKz) (@wAy)) (And.intro (@yOz) (@xGz)))))) (And.intro (And.intro (And.intro (And.intro (@xKz) (And.intro (@yDv) (@ze_112))) (And.intro (And.intro (@ia_110) (@sz_110)) (And.intro (@xKy) (@xFv)))) (And.intro (And.intro (And.intro (@zXy) (@zXz)) (And.intro (@zOw) (@zOx))) (And.intro (And.intro (@zOy) (@zOz)) (And.intro (@zMy) (@zMz))))) (And.intro (And.intro (And.intro (@zRz) (And.intro (@zLw) (@zLx))) (And.intro (And.intro (@zOv) (@yEx)) (And.intro (@yCy) (@pb_76)))) (And.intro (And.intro (And.intro (@pb_64) (@xMz)) (And.intro (@pb_42) (@xLv))) (And.intro (And.intro (@pb_56) (@xLw)) (And.intro (@xMy) (@yUw))))))
noncomputable def ET (E:List AO) (kt:Nat) (Tb:List Int):List AO:=E.set kt (.cells (zAy (Tb.map ii)) 112)
theorem zTw (E:List AO) (kt:Nat) (Tb:List Int):(ET E kt Tb).length=E.length:=List.length_set
theorem xFx {E:List AO} {kt:Nat} (h:kt<E.length) (Tb:List Int):(ET E kt Tb)[kt]? = some (.cells (zAy (Tb.map ii)) 112):=List.getElem?_set_self h
theorem yAx {E:List AO} {kt j:Nat} (h:kt≠j) (Tb:List Int):(ET E kt Tb)[j]? = E[j]?:=List.getElem?_set_ne h
theorem yDw {E:List AO} {kt:Nat} (h:kt<E.length) (Tb:List Int) (F:List AO):ET E kt Tb++F=ET (E++F) kt Tb:=(List.set_append_left _ _ h).symm
theorem yWx {E:List AO} {kt j:Nat} (h:kt≠j) (Tb:List Int) (o:AO):(ET E kt Tb).set j o=ET (E.set j o) kt Tb:=List.set_comm _ _ h
theorem ET_put (E:List AO) (kt:Nat) (Tb Tb':List Int):(ET E kt Tb).set kt (.cells (zAy (Tb'.map ii)) 112)=ET E kt Tb':=List.set_set _
theorem ET_of {E:List AO} {kt:Nat} {Tb:List Int} (h:E[kt]? = some (.cells (zAy (Tb.map ii)) 112)):E=ET E kt Tb:=by
  refine List.ext_getElem? fun i=>?_
  by_cases e:kt=i
  · subst e;rw [xFx (zHv h),h]
  · rw [yAx e]

theorem set_same {α : Type} {l:List α} {i:Nat} {x : α} (h:l[i]? = some x):l.set i x=l:=by
  refine List.ext_getElem? fun j=>?_
  by_cases e:i=j
  · subst e;rw [List.getElem?_set_self (zHv h),h]
  · rw [List.getElem?_set_ne e]
theorem paid {byv:AV} {pf:Int→Int→Int→Int→Int} (S:StepOK byv pf) (sp:List (Int × Int)) (hsp:SpotsOK sp) (a:AV) (turn:Int) (h:H) (wf:Wf h) (ht:TabF h) (hs:Sl h a 2 sp.length (zLy sp)) :
    WV ((om Tryd.prog KK).call (.fn 53 [.agg [a,ii turn],byv]) h) fun v h'=>∃ (L:List AO) (k:Nat),v=prv a turn (nx h k) (sp.length - 1)∧h'=X h L h.w∧L[k]? = some (.cells (zAy ((paidT pf sp).map ii)) 112):=by
  have n2:=hsp.n2
  have n24:=hsp.n24
  have hby:=S.flat
  have ha1:oneB a=true∧AV.cells a=[a]:=by obtain ⟨_,⟨rfl,_⟩|⟨_,_,_,_,_,_,rfl,_⟩⟩:=hs <;> exact ⟨rfl,rfl⟩
  refine zKv (fn:=Tryd.f53) Tryd.func53 rfl rfl rfl rfl rfl ?_
  simp only [zKx]
  obtain ⟨v,h',e1,M,rfl,rfl,hM⟩:=unpriced sp hsp a turn (X h [.cells (zAy [a,ii turn]) 64,.cells (zAy [byv]) 103,.cells (zAy [.nils,.int .i64 0,.nils]) 67] h.clock) (wf.X (by omega)) (ht.up wf _ _) (hs.up wf _ _)
  have hML:=zHv hM
  rw [X_X,nx_X,X_w] at e1
  simp only [List.length_cons,List.length_nil,Nat.reduceAdd,List.cons_append,List.nil_append] at e1
  unfold prv at e1
  have hla : ∀ l w,w≤h.clock+l.length→(om Tryd.prog KK).call (.fn 44 [.agg [a,ii turn]]) (X h l w) = .ok (ii ((sp.length - 1:Nat):Int)) (X h l w):=fun l w hw=>last a turn sp (by omega) _ (wf.X hw) (hs.up wf _ _)
  have hst:=starts a turn h wf (.cells (zAy [a,ii turn]) 64 :: .cells (zAy [byv]) 103 :: .cells (zAy [.nils,.int .i64 0,.nils]) 67 :: (M++[.cells (zAy [a,ii turn,.sl (nx h 7) 0 (sp.length - 1) (some (sp.length - 1)) 75]) 67])) h.clock (by omega)
  simp only [List.length_cons,List.length_append,List.length_nil,List.cons_append,List.append_assoc,List.nil_append,Nat.zero_add] at hst
  (repeat' (first
  | (with_reducible first|refine zJz ?_|refine zGw ?_|refine zEw ?_|refine zEx ?_|refine zEv ?_|refine zJy ?_|refine zGv ?_|refine zBw ?_|refine zDx ?_|refine zBv ?_|refine zCx ?_|refine zEz ?_|refine zCw ?_|refine zCz ?_|refine zBz ?_|refine zDv ?_|refine zDy ?_|refine zAx ?_|refine zAv ?_)
  | refine zCv ?_|refine zEy rfl ?_|refine zIx ?_|refine zIv ?_
  | ((first|refine zGx rfl rfl rfl rfl rfl fun K_ hK_=>?_|refine zGy rfl rfl rfl rfl rfl fun K_ hK_=>?_);simp only [zAz,zDz,zFw,↓reduceIte,reduceCtorEq,Nat.reduceEqDiff,Bool.not_true,Bool.not_false];refine hK_ _ ?_;clear hK_ K_)
  | refine zDw (by decide) ?_
  | ((try first|refine zJx rfl rfl rfl ?_|refine zIy rfl rfl ?_|refine zJw rfl rfl rfl ?_|refine zIw rfl rfl ?_);(refine zIz fun Q_ hQ_=>?_;simp (disch:=first|omega|(simp only [List.length_cons,List.length_nil,List.length_append];omega)) only [bb,bp,zKx,↓reduceIte,reduceCtorEq,Nat.reduceEqDiff,Nat.reduceLT,Nat.reduceLeDiff,Nat.reduceAdd,Nat.reduceMul,Nat.reduceSub,Nat.reduceBEq,Int.reduceToNat,cond_true,cond_false,eq_self,beq_self_eq_true,e1,hla,hst,hby.1,hby.2,ha1.1,ha1.2,zHz wf,zHx wf,zFz wf,zHy wf,zBx wf,zFy,tEvT19,zHw,zKw,zAw wf];first|(refine zCy (Q:=Q_) (fun hp_=>?_) (fun hp_=>?_) <;> first|(exfalso;omega)|(refine hQ_ _ _ ?_;clear hQ_ Q_))|(refine zBy (Q:=Q_) (fun hp_=>?_) (fun hp_=>?_) <;> first|(exfalso;omega)|(refine hQ_ _ _ ?_;clear hQ_ Q_))|(refine hQ_ _ _ ?_;clear hQ_ Q_)))
  | (refine zFv fun K_ hK_=>?_;simp (disch:=omega) only [zFx,zAz,zGz,↓reduceIte,reduceCtorEq,Nat.reduceEqDiff,Nat.reduceLT];refine hK_ _ ?_;clear hK_ K_)))
  have zlen:(AO.cells (zAy [a,ii turn]) 64 :: .cells (zAy [byv]) 103 :: .cells (zAy [.nils,.int .i64 0,.nils]) 67 :: (M++[.cells (zAy [a,ii turn,.sl (nx h 7) 0 (sp.length - 1) (some (sp.length - 1)) 75]) 67,.cells (zAy [a,ii turn]) 64])).length=M.length+5:=by simp only [List.length_cons,List.length_append,List.length_nil]
  obtain ⟨L0,hL0⟩ : ∃ L0,L0=AO.cells (zAy [a,ii turn]) 64 :: .cells (zAy [byv]) 103 :: .cells (zAy [.nils,.int .i64 0,.nils]) 67 :: (M++[.cells (zAy [a,ii turn,.sl (nx h 7) 0 (sp.length - 1) (some (sp.length - 1)) 75]) 67,.cells (zAy [a,ii turn]) 64]):=⟨_,rfl⟩
  have z0:L0[0]? = some (.cells (zAy [a,ii turn]) 64):=by rw [hL0];rfl
  have z1:L0[1]? = some (.cells (zAy [byv]) 103):=by rw [hL0];rfl
  have z2:L0[2]? = some (.cells (zAy [.nils,.int .i64 0,.nils]) 67):=by rw [hL0];rfl
  have zp:L0[M.length+1+1+1]? = some (.cells (zAy [a,ii turn,.sl (nx h 7) 0 (sp.length - 1) (some (sp.length - 1)) 75]) 67):=by rw [hL0];simp only [List.getElem?_cons_succ,zPx,List.getElem?_cons_zero]
  have zb:L0[M.length+1+1+1+1]? = some (.cells (zAy [a,ii turn]) 64):=by rw [hL0];simp only [List.getElem?_cons_succ,zLv,List.getElem?_cons_zero]
  have zt:L0[7]? = some (.cells (zAy ((startT sp []).map ii)) 112):=by
    rw [hL0]
    simp only [List.getElem?_cons_succ]
    rw [List.getElem?_append_left hML,hM]
    unfold startT
    rw [List.foldl_nil,List.map_replicate];rfl
  rw [← hL0] at zlen
  rw [← hL0]
  have hML7:7<L0.length:=zHv zt
  clear hL0 e1 hst hM
  refine yDx wf rfl (zFx (by decide)) fun o ho=>?_
  simp only [zAz,↓reduceIte,reduceCtorEq,Nat.reduceEqDiff] at ho ⊢
  have startTo : ∀ k,WT sp (startT sp ((startsL sp).take k)):=fun k=>(startFold hsp _ _ WT.rep fun y hy=>xRv hsp (List.mem_of_mem_take hy)).1
  refine WV.mono (starts1 (nx h (M.length+1+1+1+1)) a turn sp ⟨n2,by omega⟩ hsp.ok (nx h (L0.length+1)) _ (fun k hx=>∃ w0,hx=X h (ET (L0++[.dfr,o]) 7 (startT sp ((startsL sp).take k))) w0∧w0≤h.clock+(L0.length+2)) (fun _=>False) h.clock (fun _=>h.clock+8) (h.clock+8) (Nat.le_refl _) (by simp only [X_w,zQz];omega) (fun _=>by simp only [zQz,List.length_append,List.length_cons,List.length_nil];omega) (by simp only [zQz,List.length_append,List.length_cons,List.length_nil];omega) ?_ (fun _ h=>h.elim) ?_ ⟨h.clock,by rw [List.take_zero,← ET_of (by rw [List.getElem?_append_left hML7];exact zt)],by omega⟩) ?_
  · rintro k hx ⟨w0,rfl,hw0⟩
    refine ⟨DrIn.of wf (by rw [zTw];simp only [List.length_append,List.length_cons,List.length_nil];omega) ?_ hs,Same.X (by rw [zTw])⟩
    rw [yAx (by omega),List.getElem?_append_left (zHv zb)];exact zb
  · rintro k x hx hbx J w ⟨w0,rfl,hw0⟩ hlo hw
    rw [List.getElem?_map] at hx
    obtain ⟨y,hy1,rfl⟩:=Option.map_eq_some_iff.1 hx
    have hk:=zHv hy1
    have hyk:(startsL sp)[k]=y:=by rw [List.getElem?_eq_getElem hk] at hy1;exact Option.some.inj hy1
    have hyok:=xRv hsp (List.mem_of_getElem? hy1)
    have hT:=startTo k
    have hnext:startT sp ((startsL sp).take (k+1))=(startT sp ((startsL sp).take k)).set (y.ix sp) 0:=by
      rw [List.take_succ_eq_append_getElem hk,hyk];unfold startT;rw [List.foldl_append];rfl
    rw [hnext]
    generalize startT sp ((startsL sp).take k)=Tk at *
    have hw':w≤h.clock+(L0.length+2)+J.length:=by simp only [zQz,zTw,List.length_append,List.length_cons,List.length_nil] at hw;omega
    rw [X_X,yDw (by simp only [List.length_append];omega),List.append_assoc]
    simp only [List.cons_append,List.nil_append]
    have hE : ∀ (o2:AO) (F:List AO) (j:Nat) ob,j≠7→L0[j]? = some ob→(ET (L0++(.dfr :: o2 :: F)) 7 Tk)[j]? = some ob:=fun o2 F j ob hj hg=>by rw [yAx (by omega),List.getElem?_append_left (zHv hg)];exact hg
    have hEo : ∀ (o2:AO) (F:List AO),(ET (L0++(.dfr :: o2 :: F)) 7 Tk)[L0.length+1]? = some o2:=fun o2 F=>by rw [yAx (by omega),zLv];rfl
    refine yJx wf (k:=L0.length+1) (hEo o J) ho (setParams1 rfl) ?_
    unfold stv
    (repeat' (first
  | (with_reducible first|refine zJz ?_|refine zGw ?_|refine zEw ?_|refine zEx ?_|refine zEv ?_|refine zJy ?_|refine zGv ?_|refine zBw ?_|refine zDx ?_|refine zBv ?_|refine zCx ?_|refine zEz ?_|refine zCw ?_|refine zCz ?_|refine zBz ?_|refine zDv ?_|refine zDy ?_|refine zAx ?_|refine zAv ?_)
  | refine zCv ?_|refine zEy rfl ?_|refine zIx ?_|refine zIv ?_
  | ((first|refine zGx rfl rfl rfl rfl rfl fun K_ hK_=>?_|refine zGy rfl rfl rfl rfl rfl fun K_ hK_=>?_);simp only [zAz,zDz,zFw,↓reduceIte,reduceCtorEq,Nat.reduceEqDiff,Bool.not_true,Bool.not_false];refine hK_ _ ?_;clear hK_ K_)
  | refine zDw (by decide) ?_
  | ((try first|refine zJx rfl rfl rfl ?_|refine zIy rfl rfl ?_|refine zJw rfl rfl rfl ?_|refine zIw rfl rfl ?_);(refine zIz fun Q_ hQ_=>?_;simp (disch:=first|omega|(simp only [List.length_cons,List.length_nil,List.length_append];omega)) only [bb,bp,zKx,↓reduceIte,reduceCtorEq,Nat.reduceEqDiff,Nat.reduceLT,Nat.reduceLeDiff,Nat.reduceAdd,Nat.reduceMul,Nat.reduceSub,Nat.reduceBEq,Int.reduceToNat,cond_true,cond_false,eq_self,beq_self_eq_true,zHz wf,zHx wf,zFz wf,zHy wf,zBx wf,zFy,tEvT19,zHw,zKw,zAw wf];first|(refine zCy (Q:=Q_) (fun hp_=>?_) (fun hp_=>?_) <;> first|(exfalso;omega)|(refine hQ_ _ _ ?_;clear hQ_ Q_))|(refine zBy (Q:=Q_) (fun hp_=>?_) (fun hp_=>?_) <;> first|(exfalso;omega)|(refine hQ_ _ _ ?_;clear hQ_ Q_))|(refine hQ_ _ _ ?_;clear hQ_ Q_)))
  | (refine zFv fun K_ hK_=>?_;simp (disch:=omega) only [zFx,zAz,zGz,↓reduceIte,reduceCtorEq,Nat.reduceEqDiff,Nat.reduceLT];refine hK_ _ ?_;clear hK_ K_)))
    have hn0 : ∀ o2,(ET (L0++(.dfr :: o2 :: J)) 7 Tk).length=L0.length+(J.length+2):=fun o2=>by rw [zTw];simp only [List.length_append,List.length_cons]
    rw [hn0]
    refine yVz wf (k:=L0.length+1) (o:=o) (by rw [List.getElem?_append_left (by rw [hn0];omega)];exact hEo o J) ho fun o' ho'=>?_
    rw [List.set_append_left _ _ (by rw [hn0];omega),yWx (by omega),zNx]
    simp only [List.set_cons_succ,List.set_cons_zero]
    obtain ⟨Z,hZ⟩ : ∃ Z,Z=ET (L0++(.dfr :: o' :: J)) 7 Tk:=⟨_,rfl⟩
    rw [← hZ]
    have Zl:Z.length=L0.length+(J.length+2):=by rw [hZ];exact hn0 o'
    have Zp : ∀ G,(Z++G)[M.length+1+1+1]? = some (.cells (zAy [a,ii turn,.sl (nx h 7) 0 (sp.length - 1) (some (sp.length - 1)) 75]) 67):=fun G=>by rw [List.getElem?_append_left (by omega),hZ];exact hE o' J _ _ (by omega) zp
    have Zx : ∀ ob G,(Z++ob :: G)[L0.length+(J.length+2)]? = some ob:=fun ob G=>by rw [← Zl,zPx];rfl
    have Zt:(Z++[AO.cells (zAy (cellsS y)) 71])[7]? = some (.cells (zAy (Tk.map ii)) 112):=by rw [List.getElem?_append_left (by omega),hZ];exact xFx (by simp only [List.length_append];omega) _
    have hput : ∀ w',w'≤h.clock+(L0.length+(J.length+3)) → ∃ b1 b2,(om Tryd.prog KK).call (.fn 66 [prv a turn (nx h 7) (sp.length - 1),stv y,ii 0]) (X h (Z++[.cells (zAy (cellsS y)) 71]) w') = .ok (.tup []) (X h (Z.set 7 (.cells (zAy ((Tk.set (y.ix sp) 0).map ii)) 112)++[.cells (zAy (cellsS y)) 71,b1,b2]) (min w' (h.clock+7))):=fun w' hw'=>by
      obtain ⟨b1,b2,e⟩:=put_ sp hsp a turn Tk hT.len y hyok 0 h wf hs (Z++[.cells (zAy (cellsS y)) 71]) 7 w' Zt (by simp only [List.length_append,List.length_cons,List.length_nil];omega)
      refine ⟨b1,b2,?_⟩
      rw [e,List.set_append_left _ _ (by omega),List.append_assoc];rfl
    obtain ⟨b1,b2,hpt⟩:=hput (min (h.clock+(L0.length+1)) (min (h.clock+(L0.length+(J.length+2))) w)) (by omega)
    unfold prv stv cellsS at hpt
    (repeat' (first
  | (with_reducible first|refine zJz ?_|refine zGw ?_|refine zEw ?_|refine zEx ?_|refine zEv ?_|refine zJy ?_|refine zGv ?_|refine zBw ?_|refine zDx ?_|refine zBv ?_|refine zCx ?_|refine zEz ?_|refine zCw ?_|refine zCz ?_|refine zBz ?_|refine zDv ?_|refine zDy ?_|refine zAx ?_|refine zAv ?_)
  | refine zCv ?_|refine zEy rfl ?_|refine zIx ?_|refine zIv ?_
  | ((first|refine zGx rfl rfl rfl rfl rfl fun K_ hK_=>?_|refine zGy rfl rfl rfl rfl rfl fun K_ hK_=>?_);simp only [zAz,zDz,zFw,↓reduceIte,reduceCtorEq,Nat.reduceEqDiff,Bool.not_true,Bool.not_false];refine hK_ _ ?_;clear hK_ K_)
  | refine zDw (by decide) ?_
  | ((try first|refine zJx rfl rfl rfl ?_|refine zIy rfl rfl ?_|refine zJw rfl rfl rfl ?_|refine zIw rfl rfl ?_);(refine zIz fun Q_ hQ_=>?_;simp (disch:=first|omega|(simp only [List.length_cons,List.length_nil,List.length_append];omega)) only [bb,bp,zKx,↓reduceIte,reduceCtorEq,Nat.reduceEqDiff,Nat.reduceLT,Nat.reduceLeDiff,Nat.reduceAdd,Nat.reduceMul,Nat.reduceSub,Nat.reduceBEq,Int.reduceToNat,cond_true,cond_false,eq_self,beq_self_eq_true,Zp,Zx,hpt,zHz wf,zHx wf,zFz wf,zHy wf,zBx wf,zFy,tEvT19,zHw,zKw,zAw wf];first|(refine zCy (Q:=Q_) (fun hp_=>?_) (fun hp_=>?_) <;> first|(exfalso;omega)|(refine hQ_ _ _ ?_;clear hQ_ Q_))|(refine zBy (Q:=Q_) (fun hp_=>?_) (fun hp_=>?_) <;> first|(exfalso;omega)|(refine hQ_ _ _ ?_;clear hQ_ Q_))|(refine hQ_ _ _ ?_;clear hQ_ Q_)))
  | (refine zFv fun K_ hK_=>?_;simp (disch:=omega) only [zFx,zAz,zGz,↓reduceIte,reduceCtorEq,Nat.reduceEqDiff,Nat.reduceLT];refine hK_ _ ?_;clear hK_ K_)))
    refine yHv wf (k:=L0.length+1) (o:=o') ?_ ho' ?_
    · rw [List.getElem?_append_left (by rw [List.length_set];omega),List.getElem?_set_ne (by omega),hZ];exact hEo o' J
    rw [List.set_append_left _ _ (by rw [List.length_set];omega),hZ,ET_put,yWx (by omega),zNx]
    simp only [List.set_cons_succ,List.set_cons_zero]
    rw [← ho]
    have hXe : ∀ T' G w',X h (ET (L0++(.dfr :: o :: J)) 7 T'++G) w'=X (X h (ET (L0++[.dfr,o]) 7 T') h.clock) (J++G) w':=fun T' G w'=>by
      rw [X_X,← List.append_assoc,yDw (by simp only [List.length_append];omega) _ J,List.append_assoc];rfl
    rw [hXe]
    exact ⟨_,[_,b1,b2],_,rfl,Same.X (by rw [zTw,zTw]),by omega,by omega,.inl ⟨rfl,by omega,h.clock,rfl,by omega⟩⟩
  · rintro v h' ⟨hz,J3,w3,rfl,hsz,hlo3,hw3,⟨⟨w2,rfl,hw2⟩,hc3⟩|⟨hF,_⟩⟩
    rotate_left 1
    · exact hF.elim
    rw [List.length_map,List.take_length] at *
    have hT0:startT sp (startsL sp)=paidU pf sp 0:=rfl
    rw [hT0]
    have hw3':w3≤h.clock+(L0.length+2):=by simp only [X_w] at hw3;omega
    rw [X_X,yDw (by simp only [List.length_append];omega),List.append_assoc]
    simp only [List.cons_append,List.nil_append]
    refine zYv wf (k:=L0.length+1) (o:=o) (by rw [yAx (by omega),zLv];rfl) ho (by decide) fun o6 ho6=>?_
    rw [yWx (by omega),zNx]
    simp only [List.set_cons_succ,List.set_cons_zero]
    obtain ⟨L1,hL1⟩ : ∃ L1,L1=L0++(.dfr :: o6 :: J3):=⟨_,rfl⟩
    rw [← hL1]
    have y0:L1[0]? = some (.cells (zAy [a,ii turn]) 64):=by rw [hL1,List.getElem?_append_left (zHv z0)];exact z0
    have y1:L1[1]? = some (.cells (zAy [byv]) 103):=by rw [hL1,List.getElem?_append_left (zHv z1)];exact z1
    have y2:L1[2]? = some (.cells (zAy [.nils,.int .i64 0,.nils]) 67):=by rw [hL1,List.getElem?_append_left (zHv z2)];exact z2
    have yp:L1[M.length+1+1+1]? = some (.cells (zAy [a,ii turn,.sl (nx h 7) 0 (sp.length - 1) (some (sp.length - 1)) 75]) 67):=by rw [hL1,List.getElem?_append_left (zHv zp)];exact zp
    have yd:L1[L0.length]? = some .dfr:=by rw [hL1,zPx];rfl
    have hl1:L0.length+2≤L1.length:=by rw [hL1];simp only [List.length_append,List.length_cons];omega
    generalize hmin:min (h.clock+(L0.length+1)) w3=w4
    have hw4:h.clock≤w4∧w4≤h.clock+L1.length:=by omega
    have hkp:M.length+1+1+1≠7:=fun e=>by
      rw [e,zt] at zp
      injection zp with zp
      injection zp with _ zp
      exact absurd zp (by decide)
    have hd0:L0.length≠7:=by omega
    clear hL1 z0 z1 z2 zp zb zt hmin hc3 hw3 hw3' hlo3 ho ho6 hsz hT0
    (repeat' (first
  | (with_reducible first|refine zJz ?_|refine zGw ?_|refine zEw ?_|refine zEx ?_|refine zEv ?_|refine zJy ?_|refine zGv ?_|refine zBw ?_|refine zDx ?_|refine zBv ?_|refine zCx ?_|refine zEz ?_|refine zCw ?_|refine zCz ?_|refine zBz ?_|refine zDv ?_|refine zDy ?_|refine zAx ?_|refine zAv ?_)
  | refine zCv ?_|refine zEy rfl ?_|refine zIx ?_|refine zIv ?_
  | ((first|refine zGx rfl rfl rfl rfl rfl fun K_ hK_=>?_|refine zGy rfl rfl rfl rfl rfl fun K_ hK_=>?_);simp only [zAz,zDz,zFw,↓reduceIte,reduceCtorEq,Nat.reduceEqDiff,Bool.not_true,Bool.not_false];refine hK_ _ ?_;clear hK_ K_)
  | refine zDw (by decide) ?_
  | ((try first|refine zJx rfl rfl rfl ?_|refine zIy rfl rfl ?_|refine zJw rfl rfl rfl ?_|refine zIw rfl rfl ?_);(refine zIz fun Q_ hQ_=>?_;simp (disch:=first|omega|(simp only [List.length_cons,List.length_nil,List.length_append];omega)) only [bb,bp,zKx,↓reduceIte,reduceCtorEq,Nat.reduceEqDiff,Nat.reduceLT,Nat.reduceLeDiff,Nat.reduceAdd,Nat.reduceMul,Nat.reduceSub,Nat.reduceBEq,Int.reduceToNat,cond_true,cond_false,eq_self,beq_self_eq_true,zHz wf,zHx wf,zFz wf,zHy wf,zBx wf,zFy,tEvT19,zHw,zKw,zAw wf];first|(refine zCy (Q:=Q_) (fun hp_=>?_) (fun hp_=>?_) <;> first|(exfalso;omega)|(refine hQ_ _ _ ?_;clear hQ_ Q_))|(refine zBy (Q:=Q_) (fun hp_=>?_) (fun hp_=>?_) <;> first|(exfalso;omega)|(refine hQ_ _ _ ?_;clear hQ_ Q_))|(refine hQ_ _ _ ?_;clear hQ_ Q_)))
  | (refine zFv fun K_ hK_=>?_;simp (disch:=omega) only [zFx,zAz,zGz,↓reduceIte,reduceCtorEq,Nat.reduceEqDiff,Nat.reduceLT];refine hK_ _ ?_;clear hK_ K_)))
    generalize hkpe:M.length+1+1+1=kp at *
    generalize L0.length=kd at *
    have hel:(ET L1 7 (paidU pf sp 0)).length=L1.length:=zTw _ _ _
    refine zTv (fun (k:Nat) f d h'=>k+1<sp.length∧(f 2 = .ptr (nx h 0) 0∧f 3 = .ptr (nx h 1) 0∧f 4 = .ptr (nx h 2) 0∧f 5 = .ptr (nx h kp) 0) ∧ ∃ (L:List AO) (w ki:Nat) (ks:List Nat),f 7 = .ptr (nx h ki) 0∧d=ks.map (nx h)∧h'=X h (ET L 7 (paidU pf sp k)) w∧(L[0]? = some (.cells (zAy [a,ii turn]) 64)∧L[1]? = some (.cells (zAy [byv]) 103)∧L[2]? = some (.cells (zAy [.nils,.int .i64 0,.nils]) 67)∧L[kp]? = some (.cells (zAy [a,ii turn,.sl (nx h 7) 0 (sp.length - 1) (some (sp.length - 1)) 75]) 67))∧L[ki]? = some (.cells (zAy [ii ((k+1:Nat):Int)]) 3)∧7<ki∧ks.Nodup∧(∀ j ∈ ks,L[j]? = some .dfr∧j≠7)∧h.clock≤w∧w≤h.clock+L.length) (fun k=>sp.length - k) ?_ (sp.length+1) 0 (by omega) ?_
    rotate_left 1
    · refine ⟨by omega,⟨by simp only [zAz,↓reduceIte,reduceCtorEq,Nat.reduceEqDiff],by simp only [zAz,↓reduceIte,reduceCtorEq,Nat.reduceEqDiff],by simp only [zAz,↓reduceIte,reduceCtorEq,Nat.reduceEqDiff],by simp only [zAz,↓reduceIte,reduceCtorEq,Nat.reduceEqDiff]⟩,L1++[.cells (zAy [ii 1]) 3],_,L1.length,[kd],by simp only [zAz,↓reduceIte,reduceCtorEq,Nat.reduceEqDiff];rw [hel],rfl,by rw [yDw (by omega)],⟨?_,?_,?_,?_⟩,by rw [zPx];rfl,by omega,by simp,?_,?_,?_⟩
      · rw [List.getElem?_append_left (zHv y0)];exact y0
      · rw [List.getElem?_append_left (zHv y1)];exact y1
      · rw [List.getElem?_append_left (zHv y2)];exact y2
      · rw [List.getElem?_append_left (zHv yp)];exact yp
      · intro j hj
        rw [List.mem_singleton] at hj
        subst hj
        exact ⟨by rw [List.getElem?_append_left (zHv yd)];exact yd,hd0⟩
      · rw [hel];omega
      · rw [hel];simp only [List.length_append,List.length_cons,List.length_nil];omega
    clear y0 y1 y2 yp yd hl1 hw4 hel hd0 hML7
    rintro k f d h' ⟨hk,⟨g2,g3,g4,g5⟩,L,w,ki,ks,g7,rfl,rfl,⟨y0,y1,y2,yp⟩,yi,hki,hks,hkd,hw1,hw2⟩
    have PDk:=PD.all (pf:=pf) hsp S.le k hk
    generalize hTk:paidU pf sp k=Tk at *
    have hL7:7<L.length:=by have:=zHv yi;omega
    have E0 : ∀ G,(ET L 7 Tk++G)[0]? = some (.cells (zAy [a,ii turn]) 64):=fun G=>by rw [List.getElem?_append_left (by rw [zTw];omega),yAx (by omega)];exact y0
    have E0':(ET L 7 Tk)[0]? = some (.cells (zAy [a,ii turn]) 64):=by rw [yAx (by omega)];exact y0
    have Ep:(ET L 7 Tk)[kp]? = some (.cells (zAy [a,ii turn,.sl (nx h 7) 0 (sp.length - 1) (some (sp.length - 1)) 75]) 67):=by rw [yAx (by omega)];exact yp
    have Ei:(ET L 7 Tk)[ki]? = some (.cells (zAy [ii ((k+1:Nat):Int)]) 3):=by rw [yAx (by omega)];exact yi
    have hla' : ∀ w,w≤h.clock+L.length→(om Tryd.prog KK).call (.fn 44 [.agg [a,ii turn]]) (X h (ET L 7 Tk) w) = .ok (ii ((sp.length - 1:Nat):Int)) (X h (ET L 7 Tk) w):=fun w hw=>hla _ w (by rw [zTw];exact hw)
    have hEl:(ET L 7 Tk).length=L.length:=zTw _ _ _
    by_cases hlt:k+1<sp.length - 1
    · have hrd:=reached a turn ((k+1:Nat):Int) (nx h 7) (sp.length - 1) h wf (ET L 7 Tk) w (by rw [hEl];exact hw2)
      rw [hEl] at hrd
      unfold prv at hrd
      (repeat' (first
  | (with_reducible first|refine zJz ?_|refine zGw ?_|refine zEw ?_|refine zEx ?_|refine zEv ?_|refine zJy ?_|refine zGv ?_|refine zBw ?_|refine zDx ?_|refine zBv ?_|refine zCx ?_|refine zEz ?_|refine zCw ?_|refine zCz ?_|refine zBz ?_|refine zDv ?_|refine zDy ?_|refine zAx ?_|refine zAv ?_)
  | refine zCv ?_|refine zEy rfl ?_|refine zIx ?_|refine zIv ?_
  | ((first|refine zGx rfl rfl rfl rfl rfl fun K_ hK_=>?_|refine zGy rfl rfl rfl rfl rfl fun K_ hK_=>?_);simp only [zAz,zDz,zFw,↓reduceIte,reduceCtorEq,Nat.reduceEqDiff,Bool.not_true,Bool.not_false];refine hK_ _ ?_;clear hK_ K_)
  | refine zDw (by decide) ?_
  | ((try first|refine zJx rfl rfl rfl ?_|refine zIy rfl rfl ?_|refine zJw rfl rfl rfl ?_|refine zIw rfl rfl ?_);(refine zIz fun Q_ hQ_=>?_;simp (disch:=first|omega|(simp only [List.length_cons,List.length_nil,List.length_append];omega)) only [bb,bp,zKx,↓reduceIte,reduceCtorEq,Nat.reduceEqDiff,Nat.reduceLT,Nat.reduceLeDiff,Nat.reduceAdd,Nat.reduceMul,Nat.reduceSub,Nat.reduceBEq,Int.reduceToNat,cond_true,cond_false,eq_self,beq_self_eq_true,g2,g3,g4,g5,g7,tEvT19,zHw,zKw,zAw wf];first|(refine zCy (Q:=Q_) (fun hp_=>?_) (fun hp_=>?_) <;> first|(exfalso;omega)|(refine hQ_ _ _ ?_;clear hQ_ Q_))|(refine zBy (Q:=Q_) (fun hp_=>?_) (fun hp_=>?_) <;> first|(exfalso;omega)|(refine hQ_ _ _ ?_;clear hQ_ Q_))|(refine hQ_ _ _ ?_;clear hQ_ Q_)))
  | (refine zFv fun K_ hK_=>?_;simp (disch:=omega) only [zFx,zAz,zGz,↓reduceIte,reduceCtorEq,Nat.reduceEqDiff,Nat.reduceLT];refine hK_ _ ?_;clear hK_ K_)))
      refine zNw [.no,.no,.no,.full] (by kernel_rfl) ?_
      (repeat' (first
  | (with_reducible first|refine zJz ?_|refine zGw ?_|refine zEw ?_|refine zEx ?_|refine zEv ?_|refine zJy ?_|refine zGv ?_|refine zBw ?_|refine zDx ?_|refine zBv ?_|refine zCx ?_|refine zEz ?_|refine zCw ?_|refine zCz ?_|refine zBz ?_|refine zDv ?_|refine zDy ?_|refine zAx ?_|refine zAv ?_)
  | refine zCv ?_|refine zEy rfl ?_|refine zIx ?_|refine zIv ?_
  | ((first|refine zGx rfl rfl rfl rfl rfl fun K_ hK_=>?_|refine zGy rfl rfl rfl rfl rfl fun K_ hK_=>?_);simp only [zAz,zDz,zFw,↓reduceIte,reduceCtorEq,Nat.reduceEqDiff,Bool.not_true,Bool.not_false];refine hK_ _ ?_;clear hK_ K_)
  | refine zDw (by decide) ?_
  | ((try first|refine zJx rfl rfl rfl ?_|refine zIy rfl rfl ?_|refine zJw rfl rfl rfl ?_|refine zIw rfl rfl ?_);(refine zIz fun Q_ hQ_=>?_;simp (disch:=first|omega|(simp only [List.length_cons,List.length_nil,List.length_append];omega)) only [bb,bp,zKx,↓reduceIte,reduceCtorEq,Nat.reduceEqDiff,Nat.reduceLT,Nat.reduceLeDiff,Nat.reduceAdd,Nat.reduceMul,Nat.reduceSub,Nat.reduceBEq,Int.reduceToNat,cond_true,cond_false,eq_self,beq_self_eq_true,g2,g3,g4,g5,g7,E0',Ep,Ei,hla',hEl,hrd,zHz wf,zHx wf,zFz wf,zHy wf,zBx wf,zFy,tEvT19,zHw,zKw,zAw wf];first|(refine zCy (Q:=Q_) (fun hp_=>?_) (fun hp_=>?_) <;> first|(exfalso;omega)|(refine hQ_ _ _ ?_;clear hQ_ Q_))|(refine zBy (Q:=Q_) (fun hp_=>?_) (fun hp_=>?_) <;> first|(exfalso;omega)|(refine hQ_ _ _ ?_;clear hQ_ Q_))|(refine hQ_ _ _ ?_;clear hQ_ Q_)))
  | (refine zFv fun K_ hK_=>?_;simp (disch:=omega) only [zFx,zAz,zGz,↓reduceIte,reduceCtorEq,Nat.reduceEqDiff,Nat.reduceLT];refine hK_ _ ?_;clear hK_ K_)))
      have hlev:paidU pf sp (k+1)=(reachL sp (k+1) Tk).foldl (relaxC pf sp (k+1)) Tk:=by show level pf sp (paidU pf sp k) (k+1)=_;rw [hTk];rfl
      have hmem : ∀ p ∈ reachL sp (k+1) Tk,p.1.Ok sp∧p.1.i=k+1∧0≤p.2∧p.2<farI:=fun p hp=>by
        obtain ⟨h1,h2,_,h4,h5⟩:=yFw PDk.wt ⟨by omega,hk⟩ hp
        exact ⟨h1,h2,h4,h5⟩
      have hne:=PDk.ne hsp (i:=k+1) ⟨by omega,Nat.le_refl _,hk⟩
      have hwts : ∀ m,WT sp (((reachL sp (k+1) Tk).take m).foldl (relaxC pf sp (k+1)) Tk):=fun m=>by
        rw [level_eq]
        refine (RL.of (pf:=pf) (i:=k+1) hsp _ _ PDk.wt fun q hq=>?_).wt
        refine (level_rl hsp S.le PDk.wt ⟨by omega,by omega⟩).1 q ?_
        obtain ⟨p,c⟩:=q
        obtain ⟨h1,h2⟩:=yCv.1 hq
        exact yCv.2 ⟨List.mem_of_mem_take h1,h2⟩
      rw [yDw hL7]
      refine yDx wf rfl (zFx (by decide)) fun o ho=>?_
      simp only [zAz,↓reduceIte,reduceCtorEq,Nat.reduceEqDiff] at ho ⊢
      rw [zTw,yDw (by rw [List.length_append];omega)]
      simp only [List.length_append,List.length_cons,List.length_nil,List.append_assoc,List.cons_append,List.nil_append,Nat.zero_add,Nat.reduceAdd]
      obtain ⟨E,hE⟩ : ∃ E,E=L++[AO.cells (zAy [a,ii turn,.sl (nx h 7) 0 (sp.length - 1) (some (sp.length - 1)) 75]) 67,.cells (zAy [ii ((k+1:Nat):Int)]) 3,.dfr,o]:=⟨_,rfl⟩
      rw [← hE]
      have El:E.length=L.length+4:=by rw [hE];simp only [List.length_append,List.length_cons,List.length_nil]
      have Ed:E[L.length+2]? = some .dfr:=by rw [hE,zLv];rfl
      have Eo:E[L.length+2+1]? = some o:=by rw [hE,Nat.add_assoc,zLv];rfl
      have Erp:E[L.length]? = some (.cells (zAy [a,ii turn,.sl (nx h 7) 0 (sp.length - 1) (some (sp.length - 1)) 75]) 67):=by rw [hE,zPx];rfl
      have Eri:E[L.length+1]? = some (.cells (zAy [ii ((k+1:Nat):Int)]) 3):=by rw [hE,zLv];rfl
      have EL : ∀ (j:Nat) ob,L[j]? = some ob→E[j]? = some ob:=fun j ob hg=>by rw [hE,List.getElem?_append_left (zHv hg)];exact hg
      clear hE hrd
      refine WV.mono (reached1 (nx h L.length) (nx h (L.length+1)) (nx h 7) a (k+1) sp hsp ⟨by omega,hk⟩ Tk PDk.wt.len hne (nx h (L.length+2+1)) _ (fun m hx=>∃ w0,hx=X h (ET E 7 (((reachL sp (k+1) Tk).take m).foldl (relaxC pf sp (k+1)) Tk)) w0∧w0≤h.clock+E.length) (fun _=>False) h.clock (fun _=>h.clock+8) (h.clock+8) (by simp only [X_w];omega) (by simp only [X_w,zQz,zTw];omega) (fun _=>by simp only [zQz,zTw];omega) (by simp only [zQz,zTw];omega) ?_ (fun _ h=>h.elim) ?_ ⟨w,by rw [List.take_zero];rfl,by omega⟩ ?_) ?_
      · rintro m hx ⟨w0,rfl,hw0⟩
        refine ⟨RcIn.of wf (turn:=turn) (by rw [zTw];exact hw0) ?_ ?_ hs ht,Same.X (by rw [zTw,zTw])⟩
        · rw [yAx (by omega)];exact Erp
        · rw [yAx (by omega)];exact Eri
      · rintro m x hx hbx J w1 ⟨w0,rfl,hw0⟩ hlo hw
        unfold ylds at hx
        rw [List.getElem?_map] at hx
        obtain ⟨p,hp1,rfl⟩:=Option.map_eq_some_iff.1 hx
        have hm:=zHv hp1
        have hpm:(reachL sp (k+1) Tk)[m]=p:=by rw [List.getElem?_eq_getElem hm] at hp1;exact Option.some.inj hp1
        obtain ⟨pok,pi,pn0,pn1⟩:=hmem p (List.mem_of_getElem? hp1)
        have hT:=hwts m
        have hnext:((reachL sp (k+1) Tk).take (m+1)).foldl (relaxC pf sp (k+1)) Tk=relaxC pf sp (k+1) (((reachL sp (k+1) Tk).take m).foldl (relaxC pf sp (k+1)) Tk) p:=by
          rw [List.take_succ_eq_append_getElem hm,hpm,List.foldl_append];rfl
        rw [hnext]
        generalize ((reachL sp (k+1) Tk).take m).foldl (relaxC pf sp (k+1)) Tk=Tm at *
        have hw':w1≤h.clock+(L.length+4)+J.length:=by simp only [zQz,zTw] at hw;omega
        rw [X_X,yDw (by omega)]
        refine yJx wf (k:=L.length+2+1) (o:=o) (by rw [yAx (by omega),List.getElem?_append_left (by omega)];exact Eo) ho (setParams2 rfl rfl) ?_
        obtain ⟨⟨x,n⟩,rfl⟩ : ∃ q:Stt × Int,q=p:=⟨p,rfl⟩
        dsimp only at pok pi pn0 pn1 ⊢
        have hn0:(ET (E++J) 7 Tm).length=L.length+(J.length+4):=by rw [zTw,List.length_append];omega
        unfold stv
        (repeat' (first
  | (with_reducible first|refine zJz ?_|refine zGw ?_|refine zEw ?_|refine zEx ?_|refine zEv ?_|refine zJy ?_|refine zGv ?_|refine zBw ?_|refine zDx ?_|refine zBv ?_|refine zCx ?_|refine zEz ?_|refine zCw ?_|refine zCz ?_|refine zBz ?_|refine zDv ?_|refine zDy ?_|refine zAx ?_|refine zAv ?_)
  | refine zCv ?_|refine zEy rfl ?_|refine zIx ?_|refine zIv ?_
  | ((first|refine zGx rfl rfl rfl rfl rfl fun K_ hK_=>?_|refine zGy rfl rfl rfl rfl rfl fun K_ hK_=>?_);simp only [zAz,zDz,zFw,↓reduceIte,reduceCtorEq,Nat.reduceEqDiff,Bool.not_true,Bool.not_false];refine hK_ _ ?_;clear hK_ K_)
  | refine zDw (by decide) ?_
  | ((try first|refine zJx rfl rfl rfl ?_|refine zIy rfl rfl ?_|refine zJw rfl rfl rfl ?_|refine zIw rfl rfl ?_);(refine zIz fun Q_ hQ_=>?_;simp (disch:=first|omega|(simp only [List.length_cons,List.length_nil,List.length_append];omega)) only [bb,bp,zKx,↓reduceIte,reduceCtorEq,Nat.reduceEqDiff,Nat.reduceLT,Nat.reduceLeDiff,Nat.reduceAdd,Nat.reduceMul,Nat.reduceSub,Nat.reduceBEq,Int.reduceToNat,cond_true,cond_false,eq_self,beq_self_eq_true,zHz wf,zHx wf,zFz wf,zHy wf,zBx wf,zFy,tEvT19,zHw,zKw,zAw wf];first|(refine zCy (Q:=Q_) (fun hp_=>?_) (fun hp_=>?_) <;> first|(exfalso;omega)|(refine hQ_ _ _ ?_;clear hQ_ Q_))|(refine zBy (Q:=Q_) (fun hp_=>?_) (fun hp_=>?_) <;> first|(exfalso;omega)|(refine hQ_ _ _ ?_;clear hQ_ Q_))|(refine hQ_ _ _ ?_;clear hQ_ Q_)))
  | (refine zFv fun K_ hK_=>?_;simp (disch:=omega) only [zFx,zAz,zGz,↓reduceIte,reduceCtorEq,Nat.reduceEqDiff,Nat.reduceLT];refine hK_ _ ?_;clear hK_ K_)))
        rw [hn0]
        refine yVz wf (k:=L.length+2+1) (o:=o) (by rw [List.getElem?_append_left (by omega),yAx (by omega),List.getElem?_append_left (by omega)];exact Eo) ho fun o' ho'=>?_
        rw [List.set_append_left _ _ (by omega),yWx (by omega)]
        obtain ⟨F,hF⟩ : ∃ F,F=(E++J).set (L.length+2+1) o':=⟨_,rfl⟩
        rw [← hF]
        have Fl:F.length=L.length+(J.length+4):=by rw [hF,List.length_set,List.length_append];omega
        have FL : ∀ (j:Nat) ob,L[j]? = some ob→F[j]? = some ob:=fun j ob hg=>by
          have:=zHv hg
          rw [hF,List.getElem?_set_ne (by omega),List.getElem?_append_left (by omega)];exact EL j ob hg
        have Fo:F[L.length+2+1]? = some o':=by rw [hF,List.getElem?_set_self (by rw [List.length_append];omega)]
        rw [yDw (by omega)]
        obtain ⟨G,hG⟩ : ∃ G,G=F++[AO.cells (zAy [.int .i64 (x.i:Int),.int .i64 x.a,.int .i64 x.b,.int .i64 (x.s:Int)]) 71,.cells (zAy [ii n]) 2]:=⟨_,rfl⟩
        rw [← hG]
        have Gl:G.length=L.length+(J.length+4)+2:=by rw [hG,List.length_append,Fl];rfl
        have GF : ∀ (j:Nat) ob,F[j]? = some ob→G[j]? = some ob:=fun j ob hg=>by rw [hG,List.getElem?_append_left (zHv hg)];exact hg
        have Gx:G[L.length+(J.length+4)]? = some (.cells (zAy [.int .i64 (x.i:Int),.int .i64 x.a,.int .i64 x.b,.int .i64 (x.s:Int)]) 71):=by rw [hG,← Fl,zPx];rfl
        have Gn:G[L.length+(J.length+4)+1]? = some (.cells (zAy [ii n]) 2):=by rw [hG,← Fl,zLv];rfl
        have Go:=GF _ _ Fo
        generalize hwA:min (h.clock+(L.length+2+1)) (min (h.clock+(L.length+(J.length+4)+1)) (min (h.clock+(L.length+(J.length+4))) w1))=wA
        have hwA1:h.clock≤wA∧wA≤h.clock+(L.length+3):=by omega
        have hi2:k+1+1<sp.length:=by omega
        obtain ⟨⟨r1,r2⟩,⟨r3,r4⟩,r5,r6⟩:=hsp.at hi2
        obtain ⟨id0,off0,hix0,hld0⟩:=hs.at wf hi2 yLz
        have hr0 : ∀ l w,loadAgg id0 off0 (some 2) (X h l w)=some (.agg [ii (spot sp (k+1+1)).1,ii (spot sp (k+1+1)).2]):=fun l w=>by rw [(hld0 l w).2,zXx hi2,zQy hi2]
        have e12:(((k+1:Nat):Int)+1)=((k+1+1:Nat):Int):=by omega
        have hoff:=offsets (spot sp (k+1+1)).1 (spot sp (k+1+1)).2 h wf (ET G 7 Tm) wA (by rw [zTw];omega)
        rw [zTw,yDw (by omega)] at hoff
        have q0:(ET G 7 Tm)[0]? = some (.cells (zAy [a,ii turn]) 64):=by rw [yAx (by omega)];exact GF _ _ (FL _ _ y0)
        have qi:(ET G 7 Tm)[ki]? = some (.cells (zAy [ii ((k+1:Nat):Int)]) 3):=by rw [yAx (by omega)];exact GF _ _ (FL _ _ yi)
        (repeat' (first
  | (with_reducible first|refine zJz ?_|refine zGw ?_|refine zEw ?_|refine zEx ?_|refine zEv ?_|refine zJy ?_|refine zGv ?_|refine zBw ?_|refine zDx ?_|refine zBv ?_|refine zCx ?_|refine zEz ?_|refine zCw ?_|refine zCz ?_|refine zBz ?_|refine zDv ?_|refine zDy ?_|refine zAx ?_|refine zAv ?_)
  | refine zCv ?_|refine zEy rfl ?_|refine zIx ?_|refine zIv ?_
  | ((first|refine zGx rfl rfl rfl rfl rfl fun K_ hK_=>?_|refine zGy rfl rfl rfl rfl rfl fun K_ hK_=>?_);simp only [zAz,zDz,zFw,↓reduceIte,reduceCtorEq,Nat.reduceEqDiff,Bool.not_true,Bool.not_false];refine hK_ _ ?_;clear hK_ K_)
  | refine zDw (by decide) ?_
  | ((try first|refine zJx rfl rfl rfl ?_|refine zIy rfl rfl ?_|refine zJw rfl rfl rfl ?_|refine zIw rfl rfl ?_);(refine zIz fun Q_ hQ_=>?_;simp (disch:=first|omega|(simp only [List.length_cons,List.length_nil,List.length_append];omega)) only [bb,bp,zKx,↓reduceIte,reduceCtorEq,Nat.reduceEqDiff,Nat.reduceLT,Nat.reduceLeDiff,Nat.reduceAdd,Nat.reduceMul,Nat.reduceSub,Nat.reduceBEq,Int.reduceToNat,cond_true,cond_false,eq_self,beq_self_eq_true,g2,g3,g4,g5,g7,q0,qi,e12,hix0,hr0,hoff,zHz wf,zHx wf,zFz wf,zHy wf,zBx wf,zFy,tEvT19,zHw,zKw,zAw wf];first|(refine zCy (Q:=Q_) (fun hp_=>?_) (fun hp_=>?_) <;> first|(exfalso;omega)|(refine hQ_ _ _ ?_;clear hQ_ Q_))|(refine zBy (Q:=Q_) (fun hp_=>?_) (fun hp_=>?_) <;> first|(exfalso;omega)|(refine hQ_ _ _ ?_;clear hQ_ Q_))|(refine hQ_ _ _ ?_;clear hQ_ Q_)))
  | (refine zFv fun K_ hK_=>?_;simp (disch:=omega) only [zFx,zAz,zGz,↓reduceIte,reduceCtorEq,Nat.reduceEqDiff,Nat.reduceLT];refine hK_ _ ?_;clear hK_ K_)))
        refine wAz wf (k:=L.length+2+1) (o:=o') rfl (zFx (by decide)) (by rw [yAx (by omega),List.getElem?_append_left (by omega)];exact Go) ho' fun o2 ho2=>?_
        rw [yDw (by rw [List.length_append];omega),zTw]
        simp only [zAz,↓reduceIte,reduceCtorEq,Nat.reduceEqDiff,List.length_append,List.length_cons,List.length_nil,List.append_assoc,List.cons_append,List.nil_append,Nat.zero_add] at ho2 ⊢
        try simp only [Gl] at ho2
        simp only [Gl]
        obtain ⟨H2,hH2⟩ : ∃ H2,H2=G++[AO.cells (zAy [ii (spot sp (k+1+1)).1,ii (spot sp (k+1+1)).2]) 51,o2]:=⟨_,rfl⟩
        rw [← hH2]
        have Hl:H2.length=L.length+(J.length+4)+2+2:=by rw [hH2,List.length_append,Gl];rfl
        have HG : ∀ (j:Nat) ob,G[j]? = some ob→H2[j]? = some ob:=fun j ob hg=>by rw [hH2,List.getElem?_append_left (zHv hg)];exact hg
        have Hr:H2[L.length+(J.length+4)+2]? = some (AO.cells (zAy [ii (spot sp (k+1+1)).1,ii (spot sp (k+1+1)).2]) 51):=by rw [hH2,← Gl,zPx];rfl
        have Ho2:H2[L.length+(J.length+4)+2+1]? = some o2:=by rw [hH2,← Gl,zLv];rfl
        have relTo : ∀ c,WT sp (((offs (spot sp (k+1+1))).take c).foldl (relax pf sp (x,n)) Tm):=fun c=>by
          rw [xSv pf sp (k+1) (x,n)]
          refine (RL.of (pf:=pf) (i:=k+1) hsp _ _ hT fun q hq=>?_).wt
          obtain ⟨y,hy,rfl⟩:=List.mem_map.1 hq
          obtain ⟨v1,v2⟩:=zWy.1 (List.mem_of_mem_take hy)
          refine ⟨pok,pi,hi2,⟨v1,v2⟩,⟨pn0,pn1⟩,?_⟩
          obtain ⟨⟨i1,i2⟩,i3,i4,_⟩:=pok
          obtain ⟨⟨a1,a2⟩,⟨a3,a4⟩,_,_⟩:=hsp.at (i:=x.i - 1) (by omega)
          obtain ⟨⟨b1,b2⟩,⟨b3,b4⟩,_,_⟩:=hsp.at i2
          exact (S.le x.a x.b x.s y ⟨by omega,by omega⟩ ⟨by omega,by omega⟩ ⟨by omega,by omega⟩).1
        have hNo:((offs (spot sp (k+1+1))).map fun y=>[ii y]).length=(offs (spot sp (k+1+1))).length:=List.length_map _
        have hNp:0<(offs (spot sp (k+1+1))).length:=by rw [zMv];omega
        refine WV.mono ((offsets1 (t:=71) (nx h (L.length+(J.length+4)+2)) (spot sp (k+1+1)) ⟨⟨r1,r2⟩,⟨r3,r4⟩,r5⟩).plain (nx h (L.length+(J.length+4)+2+1)) _ (fun c hx=>∃ w0,hx=X h (ET H2 7 (((offs (spot sp (k+1+1))).take c).foldl (relax pf sp (x,n)) Tm)) w0∧w0≤h.clock+H2.length) (fun _=>False) h.clock (fun _=>h.clock+8) (h.clock+8) (by simp only [X_w];omega) (by simp only [X_w,zQz,zTw];omega) (fun _=>by simp only [zQz,zTw];omega) (by simp only [zQz,zTw];omega) ?_ (fun _ h=>h.elim) ?_ ⟨wA,by rw [List.take_zero];rfl,by omega⟩) ?_
        · rintro c hx ⟨w0,rfl,hw0⟩
          refine ⟨RangeIn.of wf (by rw [zTw];exact hw0) ?_,Same.X (by rw [zTw,zTw])⟩
          rw [yAx (by omega)];exact Hr
        · rintro c ya hyc hbx J2 w2 ⟨w0',rfl,hw0'⟩ hlo2 hw2'
          have hc:c<(offs (spot sp (k+1+1))).length:=by have:=zHv hyc;rwa [hNo] at this
          have hye:ya=[ii ((spot sp (k+1+1)).1+(c:Int))]:=by
            rw [List.getElem?_map,yEw (by rw [← zMv];exact hc)] at hyc
            exact (Option.some.inj hyc).symm
          subst hye
          have hyin:=zWy.1 (List.mem_of_getElem? (yEw (r:=spot sp (k+1+1)) (k:=c) (by rw [← zMv];exact hc)))
          have hoc:(offs (spot sp (k+1+1)))[c]=(spot sp (k+1+1)).1+(c:Int):=by
            apply Option.some.inj
            rw [← List.getElem?_eq_getElem hc];exact yEw (by rw [← zMv];exact hc)
          have hTc:=relTo c
          have hnx:((offs (spot sp (k+1+1))).take (c+1)).foldl (relax pf sp (x,n)) Tm=relax pf sp (x,n) (((offs (spot sp (k+1+1))).take c).foldl (relax pf sp (x,n)) Tm) ((spot sp (k+1+1)).1+(c:Int)):=by
            rw [List.take_succ_eq_append_getElem hc,hoc,List.foldl_append];rfl
          rw [hnx]
          generalize ((offs (spot sp (k+1+1))).take c).foldl (relax pf sp (x,n)) Tm=Tc at *
          generalize (spot sp (k+1+1)).1+(c:Int)=y at *
          have hzok:=xIv pok (c:=y) (by rw [pi];exact hi2) (by rw [pi];exact hyin)
          have hxx:=pok
          obtain ⟨⟨i1,i2⟩,i3,i4,_⟩:=hxx
          obtain ⟨⟨a1,a2⟩,⟨a3,a4⟩,_,_⟩:=hsp.at (i:=x.i - 1) (by omega)
          obtain ⟨⟨b1,b2⟩,⟨b3,b4⟩,_,_⟩:=hsp.at i2
          have hpc:=S.le x.a x.b x.s y ⟨by omega,by omega⟩ ⟨by omega,by omega⟩ ⟨by omega,by omega⟩
          have hrun : ∀ l w,w≤h.clock+l.length→callV Tryd.prog (om Tryd.prog KK) byv [stv x,ii y] (X h l w) = .ok (.tup [stv (nxt x y),ii (pf x.a x.b x.s y)]) (X h l w):=fun l w hw=>S.run x y (by omega) ⟨by omega,by omega⟩ ⟨by omega,by omega⟩ ⟨by omega,by omega⟩ _ (wf.X hw)
          have hrl:relax pf sp (x,n) Tc y=Tc.set ((nxt x y).ix sp) (min (Tc.getD ((nxt x y).ix sp) 0) (n+pf x.a x.b x.s y)):=rfl
          rw [hrl]
          have htv:=hTc.bd ((nxt x y).ix sp)
          have hw2b:w2≤h.clock+(L.length+(J.length+4)+4)+J2.length:=by simp only [zQz,zTw,Hl] at hw2';omega
          have hfar:farI=1099511627776:=rfl
          rw [X_X,yDw (by omega)]
          refine yJx wf (k:=L.length+(J.length+4)+2+1) (o:=o2) (by rw [yAx (by omega),List.getElem?_append_left (by omega)];exact Ho2) ho2 (setParams1 rfl) ?_
          (repeat' (first
  | (with_reducible first|refine zJz ?_|refine zGw ?_|refine zEw ?_|refine zEx ?_|refine zEv ?_|refine zJy ?_|refine zGv ?_|refine zBw ?_|refine zDx ?_|refine zBv ?_|refine zCx ?_|refine zEz ?_|refine zCw ?_|refine zCz ?_|refine zBz ?_|refine zDv ?_|refine zDy ?_|refine zAx ?_|refine zAv ?_)
  | refine zCv ?_|refine zEy rfl ?_|refine zIx ?_|refine zIv ?_
  | ((first|refine zGx rfl rfl rfl rfl rfl fun K_ hK_=>?_|refine zGy rfl rfl rfl rfl rfl fun K_ hK_=>?_);simp only [zAz,zDz,zFw,↓reduceIte,reduceCtorEq,Nat.reduceEqDiff,Bool.not_true,Bool.not_false];refine hK_ _ ?_;clear hK_ K_)
  | refine zDw (by decide) ?_
  | ((try first|refine zJx rfl rfl rfl ?_|refine zIy rfl rfl ?_|refine zJw rfl rfl rfl ?_|refine zIw rfl rfl ?_);(refine zIz fun Q_ hQ_=>?_;simp (disch:=first|omega|(simp only [List.length_cons,List.length_nil,List.length_append];omega)) only [bb,bp,zKx,↓reduceIte,reduceCtorEq,Nat.reduceEqDiff,Nat.reduceLT,Nat.reduceLeDiff,Nat.reduceAdd,Nat.reduceMul,Nat.reduceSub,Nat.reduceBEq,Int.reduceToNat,cond_true,cond_false,eq_self,beq_self_eq_true,zHz wf,zHx wf,zFz wf,zHy wf,zBx wf,zFy,tEvT19,zHw,zKw,zAw wf];first|(refine zCy (Q:=Q_) (fun hp_=>?_) (fun hp_=>?_) <;> first|(exfalso;omega)|(refine hQ_ _ _ ?_;clear hQ_ Q_))|(refine zBy (Q:=Q_) (fun hp_=>?_) (fun hp_=>?_) <;> first|(exfalso;omega)|(refine hQ_ _ _ ?_;clear hQ_ Q_))|(refine hQ_ _ _ ?_;clear hQ_ Q_)))
  | (refine zFv fun K_ hK_=>?_;simp (disch:=omega) only [zFx,zAz,zGz,↓reduceIte,reduceCtorEq,Nat.reduceEqDiff,Nat.reduceLT];refine hK_ _ ?_;clear hK_ K_)))
          refine yVz wf (k:=L.length+(J.length+4)+2+1) (o:=o2) (by rw [yAx (by omega),List.getElem?_append_left (by omega)];exact Ho2) ho2 fun o4 ho4=>?_
          rw [yWx (by omega)]
          obtain ⟨K2,hK2⟩ : ∃ K2,K2=(H2++J2).set (L.length+(J.length+4)+2+1) o4:=⟨_,rfl⟩
          rw [← hK2]
          have Kl:K2.length=L.length+(J.length+4)+4+J2.length:=by rw [hK2,List.length_set,List.length_append];omega
          have KL : ∀ (j:Nat) ob,j≠L.length+(J.length+4)+2+1→H2[j]? = some ob→K2[j]? = some ob:=fun j ob hj hg=>by
            rw [hK2,List.getElem?_set_ne (by omega),List.getElem?_append_left (zHv hg)];exact hg
          have Ko:K2[L.length+(J.length+4)+2+1]? = some o4:=by rw [hK2,List.getElem?_set_self (by rw [List.length_append];omega)]
          have p1:(ET K2 7 Tc)[1]? = some (.cells (zAy [byv]) 103):=by rw [yAx (by omega)];exact KL _ _ (by omega) (HG _ _ (GF _ _ (FL _ _ y1)))
          have px:(ET K2 7 Tc)[L.length+(J.length+4)]? = some (.cells (zAy [.int .i64 (x.i:Int),.int .i64 x.a,.int .i64 x.b,.int .i64 (x.s:Int)]) 71):=by rw [yAx (by omega)];exact KL _ _ (by omega) (HG _ _ Gx)
          have kEl:(ET K2 7 Tc).length=K2.length:=zTw _ _ _
          have pn : ∀ R,(ET K2 7 Tc++R)[L.length+(J.length+4)+1]? = some (.cells (zAy [ii n]) 2):=fun R=>by rw [List.getElem?_append_left (by omega),yAx (by omega)];exact KL _ _ (by omega) (HG _ _ Gn)
          have pp : ∀ R,(ET K2 7 Tc++R)[kp]? = some (.cells (zAy [a,ii turn,.sl (nx h 7) 0 (sp.length - 1) (some (sp.length - 1)) 75]) 67):=fun R=>by
            have:=KL _ _ (by have:=zHv yp;omega) (HG _ _ (GF _ _ (FL _ _ yp)))
            rw [List.getElem?_append_left (by have:=zHv this;omega),yAx (by omega)];exact this
          have hat : ∀ R w,w≤h.clock+(K2.length+R.length)→(om Tryd.prog KK).call (.fn 43 [prv a turn (nx h 7) (sp.length - 1),stv (nxt x y)]) (X h (ET K2 7 Tc++R) w) = .ok (ii (Tc.getD ((nxt x y).ix sp) 0)) (X h (ET K2 7 Tc++R) w):=fun R w hw=>at_ sp hsp a turn (nx h 7) Tc hTc.len (nxt x y) hzok _ (wf.X (by rw [List.length_append,kEl];exact hw)) (hs.up wf _ _) (TabIn.of wf (by rw [List.getElem?_append_left (by omega)];exact xFx (by omega) _))
          generalize hz:nxt x y=z at *
          generalize hpce:pf x.a x.b x.s y=pc at *
          generalize htbe:Tc.getD (z.ix sp) 0=tv at *
          have hsum : ∀ (ob:AO) w,w≤h.clock+(K2.length+2)→(om Tryd.prog KK).call (.fn 36 [.sl (nx h ((ET K2 7 Tc).length+1)) 0 2 (some 2) 1]) (X h (ET K2 7 Tc++[ob,.cells (zAy [ii n,ii pc]) 2]) w) = .ok (ii (n+pc)) (X h (ET K2 7 Tc++[ob,.cells (zAy [ii n,ii pc]) 2]) w):=fun ob w hw=>sum2 wf (by rw [zLv];rfl) (by rw [List.length_append,kEl];simp only [List.length_cons,List.length_nil];omega) (by omega) (by omega)
          unfold stv prv at hat
          unfold stv at hrun
          (repeat' (first
  | (with_reducible first|refine zJz ?_|refine zGw ?_|refine zEw ?_|refine zEx ?_|refine zEv ?_|refine zJy ?_|refine zGv ?_|refine zBw ?_|refine zDx ?_|refine zBv ?_|refine zCx ?_|refine zEz ?_|refine zCw ?_|refine zCz ?_|refine zBz ?_|refine zDv ?_|refine zDy ?_|refine zAx ?_|refine zAv ?_)
  | refine zCv ?_|refine zEy rfl ?_|refine zIx ?_|refine zIv ?_
  | ((first|refine zGx rfl rfl rfl rfl rfl fun K_ hK_=>?_|refine zGy rfl rfl rfl rfl rfl fun K_ hK_=>?_);simp only [zAz,zDz,zFw,↓reduceIte,reduceCtorEq,Nat.reduceEqDiff,Bool.not_true,Bool.not_false];refine hK_ _ ?_;clear hK_ K_)
  | refine zDw (by decide) ?_
  | ((try first|refine zJx rfl rfl rfl ?_|refine zIy rfl rfl ?_|refine zJw rfl rfl rfl ?_|refine zIw rfl rfl ?_);(refine zIz fun Q_ hQ_=>?_;simp (disch:=first|omega|(simp only [List.length_cons,List.length_nil,List.length_append];omega)) only [bb,bp,zKx,↓reduceIte,reduceCtorEq,Nat.reduceEqDiff,Nat.reduceLT,Nat.reduceLeDiff,Nat.reduceAdd,Nat.reduceMul,Nat.reduceSub,Nat.reduceBEq,Int.reduceToNat,cond_true,cond_false,eq_self,beq_self_eq_true,g2,g3,g4,g5,g7,p1,px,pn,pp,hrun,zHz wf,zHx wf,zFz wf,zHy wf,zBx wf,zFy,tEvT19,zHw,zKw,zAw wf];first|(refine zCy (Q:=Q_) (fun hp_=>?_) (fun hp_=>?_) <;> first|(exfalso;omega)|(refine hQ_ _ _ ?_;clear hQ_ Q_))|(refine zBy (Q:=Q_) (fun hp_=>?_) (fun hp_=>?_) <;> first|(exfalso;omega)|(refine hQ_ _ _ ?_;clear hQ_ Q_))|(refine hQ_ _ _ ?_;clear hQ_ Q_)))
  | (refine zFv fun K_ hK_=>?_;simp (disch:=omega) only [zFx,zAz,zGz,↓reduceIte,reduceCtorEq,Nat.reduceEqDiff,Nat.reduceLT];refine hK_ _ ?_;clear hK_ K_)))
          obtain ⟨c1,c2,hpt⟩:=put_ sp hsp a turn Tc hTc.len z hzok (min tv (n+pc)) h wf hs (ET K2 7 Tc++[.cells (zAy (cellsS z)) 71,.cells (zAy [ii n,ii pc]) 2]) 7 (h.clock+((ET K2 7 Tc).length+2)) (by rw [List.getElem?_append_left (by omega)];exact xFx (by omega) _) (by rw [List.length_append];exact Nat.le_refl _)
          rw [List.set_append_left _ _ (by omega),ET_put,List.append_assoc] at hpt
          unfold prv stv cellsS at hpt
          simp only [List.cons_append,List.nil_append] at hpt
          refine zNw [.no,.no,.no,.no,.no,.no,.no,.no,.no,.no,.full] (by kernel_rfl) ?_
          have hat1:=fun ob w hw=>hat [ob] w hw
          (repeat' (first
  | (with_reducible first|refine zJz ?_|refine zGw ?_|refine zEw ?_|refine zEx ?_|refine zEv ?_|refine zJy ?_|refine zGv ?_|refine zBw ?_|refine zDx ?_|refine zBv ?_|refine zCx ?_|refine zEz ?_|refine zCw ?_|refine zCz ?_|refine zBz ?_|refine zDv ?_|refine zDy ?_|refine zAx ?_|refine zAv ?_)
  | refine zCv ?_|refine zEy rfl ?_|refine zIx ?_|refine zIv ?_
  | ((first|refine zGx rfl rfl rfl rfl rfl fun K_ hK_=>?_|refine zGy rfl rfl rfl rfl rfl fun K_ hK_=>?_);simp only [zAz,zDz,zFw,↓reduceIte,reduceCtorEq,Nat.reduceEqDiff,Bool.not_true,Bool.not_false];refine hK_ _ ?_;clear hK_ K_)
  | refine zDw (by decide) ?_
  | ((try first|refine zJx rfl rfl rfl ?_|refine zIy rfl rfl ?_|refine zJw rfl rfl rfl ?_|refine zIw rfl rfl ?_);(refine zIz fun Q_ hQ_=>?_;simp (disch:=first|omega|(simp only [List.length_cons,List.length_nil,List.length_append];omega)) only [bb,bp,zKx,↓reduceIte,reduceCtorEq,Nat.reduceEqDiff,Nat.reduceLT,Nat.reduceLeDiff,Nat.reduceAdd,Nat.reduceMul,Nat.reduceSub,Nat.reduceBEq,Int.reduceToNat,cond_true,cond_false,eq_self,beq_self_eq_true,g2,g3,g4,g5,g7,px,pn,pp,hat1,hsum,hpt,zHz wf,zHx wf,zFz wf,zHy wf,zBx wf,zFy,tEvT19,zHw,zKw,zAw wf];first|(refine zCy (Q:=Q_) (fun hp_=>?_) (fun hp_=>?_) <;> first|(exfalso;omega)|(refine hQ_ _ _ ?_;clear hQ_ Q_))|(refine zBy (Q:=Q_) (fun hp_=>?_) (fun hp_=>?_) <;> first|(exfalso;omega)|(refine hQ_ _ _ ?_;clear hQ_ Q_))|(refine hQ_ _ _ ?_;clear hQ_ Q_)))
  | (refine zFv fun K_ hK_=>?_;simp (disch:=omega) only [zFx,zAz,zGz,↓reduceIte,reduceCtorEq,Nat.reduceEqDiff,Nat.reduceLT];refine hK_ _ ?_;clear hK_ K_)))
          refine yHv wf (k:=L.length+(J.length+4)+2+1) (o:=o4) (by rw [List.getElem?_append_left (by rw [zTw];omega),yAx (by omega)];exact Ko) ho4 ?_
          rw [List.set_append_left _ _ (by rw [zTw];omega),yWx (by omega),hK2,List.set_set]
          rw [← ho2,set_same (show (H2++J2)[L.length+(J.length+4)+2+1]? = some o2 by rw [List.getElem?_append_left (by omega)];exact Ho2)]
          have hXe : ∀ T' R w',X h (ET (H2++J2) 7 T'++R) w'=X (X h (ET H2 7 T') h.clock) (J2++R) w':=fun T' R w'=>by
            rw [X_X,← List.append_assoc,yDw (by omega) _ J2]
          rw [hXe]
          rw [zTw] at *
          exact ⟨_,[_,_,c1,c2],_,rfl,Same.X (by rw [zTw,zTw]),by omega,by omega,.inl ⟨rfl,by omega,h.clock,rfl,by omega⟩⟩
        · rintro v h' ⟨hz,J4,w5,rfl,hsz,hlo3,hw3,⟨⟨w6,rfl,hw6⟩,hc3⟩|⟨hF,_⟩⟩
          rotate_left 1
          · exact hF.elim
          rw [hNo,List.take_length]
          rw [hNo] at hc3
          have hc0:=hc3 0 hNp
          simp only [X_w] at hw3
          rw [X_X,yDw (by omega)]
          refine zYv wf (k:=L.length+(J.length+4)+2+1) (o:=o2) (by rw [yAx (by omega),List.getElem?_append_left (by omega)];exact Ho2) ho2 (by decide) fun o5 ho5=>?_
          rw [yWx (by omega)]
          (repeat' (first
  | (with_reducible first|refine zJz ?_|refine zGw ?_|refine zEw ?_|refine zEx ?_|refine zEv ?_|refine zJy ?_|refine zGv ?_|refine zBw ?_|refine zDx ?_|refine zBv ?_|refine zCx ?_|refine zEz ?_|refine zCw ?_|refine zCz ?_|refine zBz ?_|refine zDv ?_|refine zDy ?_|refine zAx ?_|refine zAv ?_)
  | refine zCv ?_|refine zEy rfl ?_|refine zIx ?_|refine zIv ?_
  | ((first|refine zGx rfl rfl rfl rfl rfl fun K_ hK_=>?_|refine zGy rfl rfl rfl rfl rfl fun K_ hK_=>?_);simp only [zAz,zDz,zFw,↓reduceIte,reduceCtorEq,Nat.reduceEqDiff,Bool.not_true,Bool.not_false];refine hK_ _ ?_;clear hK_ K_)
  | refine zDw (by decide) ?_
  | ((try first|refine zJx rfl rfl rfl ?_|refine zIy rfl rfl ?_|refine zJw rfl rfl rfl ?_|refine zIw rfl rfl ?_);(refine zIz fun Q_ hQ_=>?_;simp (disch:=first|omega|(simp only [List.length_cons,List.length_nil,List.length_append];omega)) only [bb,bp,zKx,↓reduceIte,reduceCtorEq,Nat.reduceEqDiff,Nat.reduceLT,Nat.reduceLeDiff,Nat.reduceAdd,Nat.reduceMul,Nat.reduceSub,Nat.reduceBEq,Int.reduceToNat,cond_true,cond_false,eq_self,beq_self_eq_true,zHz wf,zHx wf,zFz wf,zHy wf,zBx wf,zFy,tEvT19,zHw,zKw,zAw wf];first|(refine zCy (Q:=Q_) (fun hp_=>?_) (fun hp_=>?_) <;> first|(exfalso;omega)|(refine hQ_ _ _ ?_;clear hQ_ Q_))|(refine zBy (Q:=Q_) (fun hp_=>?_) (fun hp_=>?_) <;> first|(exfalso;omega)|(refine hQ_ _ _ ?_;clear hQ_ Q_))|(refine hQ_ _ _ ?_;clear hQ_ Q_)))
  | (refine zFv fun K_ hK_=>?_;simp (disch:=omega) only [zFx,zAz,zGz,↓reduceIte,reduceCtorEq,Nat.reduceEqDiff,Nat.reduceLT];refine hK_ _ ?_;clear hK_ K_)))
          refine yHv wf (k:=L.length+2+1) (o:=o') (by rw [yAx (by omega),List.getElem?_set_ne (by omega),List.getElem?_append_left (by omega)];exact HG _ _ Go) ho' ?_
          rw [yWx (by omega),← ho]
          have hlist:((H2++J4).set (L.length+(J.length+4)+2+1) o5).set (L.length+2+1) o=(E++J)++([AO.cells (zAy [.int .i64 (x.i:Int),.int .i64 x.a,.int .i64 x.b,.int .i64 (x.s:Int)]) 71,.cells (zAy [ii n]) 2,.cells (zAy [ii (spot sp (k+1+1)).1,ii (spot sp (k+1+1)).2]) 51,o5]++J4):=by
            have e1:H2++J4=F++([AO.cells (zAy [.int .i64 (x.i:Int),.int .i64 x.a,.int .i64 x.b,.int .i64 (x.s:Int)]) 71,.cells (zAy [ii n]) 2,.cells (zAy [ii (spot sp (k+1+1)).1,ii (spot sp (k+1+1)).2]) 51,o2]++J4):=by
              rw [hH2,hG];simp only [List.append_assoc,List.cons_append,List.nil_append]
            rw [e1,show L.length+(J.length+4)+2+1=F.length+3 by omega,zNx,List.set_append_left _ _ (by omega),hF,List.set_set,set_same (show (E++J)[L.length+2+1]? = some o by rw [List.getElem?_append_left (by omega)];exact Eo)]
            rfl
          rw [hlist]
          have hXe : ∀ T' R w',X h (ET ((E++J)++R) 7 T') w'=X (X h (ET E 7 T') h.clock) (J++R) w':=fun T' R w'=>by
            rw [X_X,yDw (by omega),List.append_assoc]
          rw [hXe]
          exact ⟨_,_,_,rfl,Same.X (by rw [zTw,zTw]),by omega,by omega,.inl ⟨rfl,by omega,h.clock,rfl,by omega⟩⟩
      · intro J w'
        rw [X_X,yDw (by omega),zFz wf,xFx (by rw [List.length_append];omega),zPv (by decide),if_pos (by
          rw [List.length_map,PDk.wt.len]
          have:=Nat.mul_le_mul_right 75 (show k+1 - 1+1≤sp.length - 1 by omega)
          omega)]
        unfold rowT
        rw [List.map_take,List.map_drop]
      · rintro v h' ⟨hz,J3,w3,rfl,hsz,hlo3,hw3,⟨⟨w2,rfl,hw2'⟩,hc3⟩|⟨hF,_⟩⟩
        rotate_left 1
        · exact hF.elim
        have hyl:(ylds (reachL sp (k+1) Tk)).length=(reachL sp (k+1) Tk).length:=by unfold ylds;rw [List.length_map]
        rw [hyl,List.take_length,← hlev]
        rw [hyl] at hc3
        have hc0:=hc3 0 hne
        rw [X_X,yDw (by omega)]
        refine zYv wf (k:=L.length+2+1) (o:=o) (by rw [yAx (by omega),List.getElem?_append_left (by omega)];exact Eo) ho (by decide) fun o6 ho6=>?_
        rw [yWx (by omega)]
        obtain ⟨L2,hL2⟩ : ∃ L2,L2=(E++J3).set (L.length+2+1) o6:=⟨_,rfl⟩
        rw [← hL2]
        have l2:L2.length=L.length+4+J3.length:=by rw [hL2,List.length_set,List.length_append,El]
        have keep : ∀ (j:Nat) ob,j≠L.length+2+1→E[j]? = some ob→L2[j]? = some ob:=fun j ob hj hg=>by rw [hL2,List.getElem?_set_ne (by omega),List.getElem?_append_left (zHv hg)];exact hg
        have keepL : ∀ (j:Nat) ob,L[j]? = some ob→L2[j]? = some ob:=fun j ob hg=>keep j ob (by have:=zHv hg;omega) (EL j ob hg)
        have yi':(ET L2 7 (paidU pf sp (k+1)))[ki]? = some (.cells (zAy [ii ((k+1:Nat):Int)]) 3):=by rw [yAx (by omega)];exact keepL _ _ yi
        have hel:(ET L2 7 (paidU pf sp (k+1))).length=L2.length:=zTw _ _ _
        clear hL2
        have hwq:w3≤h.clock+7:=by omega
        (repeat' (first
  | (with_reducible first|refine zJz ?_|refine zGw ?_|refine zEw ?_|refine zEx ?_|refine zEv ?_|refine zJy ?_|refine zGv ?_|refine zBw ?_|refine zDx ?_|refine zBv ?_|refine zCx ?_|refine zEz ?_|refine zCw ?_|refine zCz ?_|refine zBz ?_|refine zDv ?_|refine zDy ?_|refine zAx ?_|refine zAv ?_)
  | refine zCv ?_|refine zEy rfl ?_|refine zIx ?_|refine zIv ?_
  | ((first|refine zGx rfl rfl rfl rfl rfl fun K_ hK_=>?_|refine zGy rfl rfl rfl rfl rfl fun K_ hK_=>?_);simp only [zAz,zDz,zFw,↓reduceIte,reduceCtorEq,Nat.reduceEqDiff,Bool.not_true,Bool.not_false];refine hK_ _ ?_;clear hK_ K_)
  | refine zDw (by decide) ?_
  | ((try first|refine zJx rfl rfl rfl ?_|refine zIy rfl rfl ?_|refine zJw rfl rfl rfl ?_|refine zIw rfl rfl ?_);(refine zIz fun Q_ hQ_=>?_;simp (disch:=first|omega|(simp only [List.length_cons,List.length_nil,List.length_append];omega)) only [bb,bp,zKx,↓reduceIte,reduceCtorEq,Nat.reduceEqDiff,Nat.reduceLT,Nat.reduceLeDiff,Nat.reduceAdd,Nat.reduceMul,Nat.reduceSub,Nat.reduceBEq,Int.reduceToNat,cond_true,cond_false,eq_self,beq_self_eq_true,g2,g3,g4,g5,g7,yi',zHz wf,zHx wf,zFz wf,zHy wf,zBx wf,zFy,tEvT19,zHw,zKw,zAw wf];first|(refine zCy (Q:=Q_) (fun hp_=>?_) (fun hp_=>?_) <;> first|(exfalso;omega)|(refine hQ_ _ _ ?_;clear hQ_ Q_))|(refine zBy (Q:=Q_) (fun hp_=>?_) (fun hp_=>?_) <;> first|(exfalso;omega)|(refine hQ_ _ _ ?_;clear hQ_ Q_))|(refine hQ_ _ _ ?_;clear hQ_ Q_)))
  | (refine zFv fun K_ hK_=>?_;simp (disch:=omega) only [zFx,zAz,zGz,↓reduceIte,reduceCtorEq,Nat.reduceEqDiff,Nat.reduceLT];refine hK_ _ ?_;clear hK_ K_)))
        rw [yDw (by omega)]
        refine zKy (k+1) (by omega) ⟨by omega,⟨by simp only [zAz,↓reduceIte,reduceCtorEq,Nat.reduceEqDiff];exact g2,by simp only [zAz,↓reduceIte,reduceCtorEq,Nat.reduceEqDiff];exact g3,by simp only [zAz,↓reduceIte,reduceCtorEq,Nat.reduceEqDiff];exact g4,by simp only [zAz,↓reduceIte,reduceCtorEq,Nat.reduceEqDiff];exact g5⟩,L2++[.cells (zAy [ii (((k+1:Nat):Int)+1)]) 3],_,L2.length,(L.length+2) :: ks,by simp only [zAz,↓reduceIte,reduceCtorEq,Nat.reduceEqDiff];rw [hel],rfl,rfl,⟨?_,?_,?_,?_⟩,by rw [zPx];rfl,by omega,?_,?_,by rw [hel];omega,by rw [hel];simp only [List.length_append,List.length_cons,List.length_nil];omega⟩
        · rw [List.getElem?_append_left (by omega)];exact keepL _ _ y0
        · rw [List.getElem?_append_left (by omega)];exact keepL _ _ y1
        · rw [List.getElem?_append_left (by omega)];exact keepL _ _ y2
        · rw [List.getElem?_append_left (by have:=zHv yp;omega)];exact keepL _ _ yp
        · rw [List.nodup_cons]
          exact ⟨fun hm=>by have:=zHv (hkd _ hm).1;omega,hks⟩
        · intro j hj
          rcases List.mem_cons.1 hj with rfl|hj
          · exact ⟨by rw [List.getElem?_append_left (by omega)];exact keep _ _ (by omega) Ed,by omega⟩
          · have:=hkd j hj
            exact ⟨by rw [List.getElem?_append_left (by have:=zHv this.1;omega)];exact keepL _ _ this.1,this.2⟩
    · have hke:k=sp.length - 2:=by omega
      have hTp:Tk=paidT pf sp:=by rw [← hTk,hke];rfl
      have hstw : ∀ w,writeCells (nx h 2) 0 [a,ii turn,.sl (nx h 7) 0 (sp.length - 1) (some (sp.length - 1)) 75] (X h (ET L 7 Tk) w)=some (X h (ET (L.set 2 (.cells (zAy [a,ii turn,.sl (nx h 7) 0 (sp.length - 1) (some (sp.length - 1)) 75]) 67)) 7 Tk) (min (h.clock+2) w)):=fun w=>by
        rw [zBx wf,yAx (by omega),y2,zUx]
        simp only [zZy,yUz,ha1.1,xOz,oneB_sl]
        rw [← yWx (by omega)]
        rfl
      (repeat' (first
  | (with_reducible first|refine zJz ?_|refine zGw ?_|refine zEw ?_|refine zEx ?_|refine zEv ?_|refine zJy ?_|refine zGv ?_|refine zBw ?_|refine zDx ?_|refine zBv ?_|refine zCx ?_|refine zEz ?_|refine zCw ?_|refine zCz ?_|refine zBz ?_|refine zDv ?_|refine zDy ?_|refine zAx ?_|refine zAv ?_)
  | refine zCv ?_|refine zEy rfl ?_|refine zIx ?_|refine zIv ?_
  | ((first|refine zGx rfl rfl rfl rfl rfl fun K_ hK_=>?_|refine zGy rfl rfl rfl rfl rfl fun K_ hK_=>?_);simp only [zAz,zDz,zFw,↓reduceIte,reduceCtorEq,Nat.reduceEqDiff,Bool.not_true,Bool.not_false];refine hK_ _ ?_;clear hK_ K_)
  | refine zDw (by decide) ?_
  | ((try first|refine zJx rfl rfl rfl ?_|refine zIy rfl rfl ?_|refine zJw rfl rfl rfl ?_|refine zIw rfl rfl ?_);(refine zIz fun Q_ hQ_=>?_;simp (disch:=first|omega|(simp only [List.length_cons,List.length_nil,List.length_append];omega)) only [bb,bp,zKx,↓reduceIte,reduceCtorEq,Nat.reduceEqDiff,Nat.reduceLT,Nat.reduceLeDiff,Nat.reduceAdd,Nat.reduceMul,Nat.reduceSub,Nat.reduceBEq,Int.reduceToNat,cond_true,cond_false,eq_self,beq_self_eq_true,g2,g3,g4,g5,g7,tEvT19,zHw,zKw,zAw wf];first|(refine zCy (Q:=Q_) (fun hp_=>?_) (fun hp_=>?_) <;> first|(exfalso;omega)|(refine hQ_ _ _ ?_;clear hQ_ Q_))|(refine zBy (Q:=Q_) (fun hp_=>?_) (fun hp_=>?_) <;> first|(exfalso;omega)|(refine hQ_ _ _ ?_;clear hQ_ Q_))|(refine hQ_ _ _ ?_;clear hQ_ Q_)))
  | (refine zFv fun K_ hK_=>?_;simp (disch:=omega) only [zFx,zAz,zGz,↓reduceIte,reduceCtorEq,Nat.reduceEqDiff,Nat.reduceLT];refine hK_ _ ?_;clear hK_ K_)))
      refine zNw [.no,.no,.no,.full] (by kernel_rfl) ?_
      (repeat' (first
  | (with_reducible first|refine zJz ?_|refine zGw ?_|refine zEw ?_|refine zEx ?_|refine zEv ?_|refine zJy ?_|refine zGv ?_|refine zBw ?_|refine zDx ?_|refine zBv ?_|refine zCx ?_|refine zEz ?_|refine zCw ?_|refine zCz ?_|refine zBz ?_|refine zDv ?_|refine zDy ?_|refine zAx ?_|refine zAv ?_)
  | refine zCv ?_|refine zEy rfl ?_|refine zIx ?_|refine zIv ?_
  | ((first|refine zGx rfl rfl rfl rfl rfl fun K_ hK_=>?_|refine zGy rfl rfl rfl rfl rfl fun K_ hK_=>?_);simp only [zAz,zDz,zFw,↓reduceIte,reduceCtorEq,Nat.reduceEqDiff,Bool.not_true,Bool.not_false];refine hK_ _ ?_;clear hK_ K_)
  | refine zDw (by decide) ?_
  | ((try first|refine zJx rfl rfl rfl ?_|refine zIy rfl rfl ?_|refine zJw rfl rfl rfl ?_|refine zIw rfl rfl ?_);(refine zIz fun Q_ hQ_=>?_;simp (disch:=first|omega|(simp only [List.length_cons,List.length_nil,List.length_append];omega)) only [bb,bp,zKx,↓reduceIte,reduceCtorEq,Nat.reduceEqDiff,Nat.reduceLT,Nat.reduceLeDiff,Nat.reduceAdd,Nat.reduceMul,Nat.reduceSub,Nat.reduceBEq,Int.reduceToNat,cond_true,cond_false,eq_self,beq_self_eq_true,g2,g3,g4,g5,g7,E0',Ep,Ei,hla',hEl,hstw,ha1.1,ha1.2,zHz wf,zHx wf,zFz wf,tEvT19,zHw,zKw,zAw wf];first|(refine zCy (Q:=Q_) (fun hp_=>?_) (fun hp_=>?_) <;> first|(exfalso;omega)|(refine hQ_ _ _ ?_;clear hQ_ Q_))|(refine zBy (Q:=Q_) (fun hp_=>?_) (fun hp_=>?_) <;> first|(exfalso;omega)|(refine hQ_ _ _ ?_;clear hQ_ Q_))|(refine hQ_ _ _ ?_;clear hQ_ Q_)))
  | (refine zFv fun K_ hK_=>?_;simp (disch:=omega) only [zFx,zAz,zGz,↓reduceIte,reduceCtorEq,Nat.reduceEqDiff,Nat.reduceLT];refine hK_ _ ?_;clear hK_ K_)))
      have l2:(L.set 2 (.cells (zAy [a,ii turn,.sl (nx h 7) 0 (sp.length - 1) (some (sp.length - 1)) 75]) 67)).length=L.length:=List.length_set
      obtain ⟨L',w',htk,hl',hw1',hw2',hkeep⟩:=yAw wf (lo:=h.clock) (Nat.le_refl _) ks (ET (L.set 2 (.cells (zAy [a,ii turn,.sl (nx h 7) 0 (sp.length - 1) (some (sp.length - 1)) 75]) 67)) 7 Tk) (min (h.clock+2) w) hks (fun j hj=>by
        obtain ⟨h1,h2⟩:=hkd j hj
        rw [yAx (by omega),List.getElem?_set_ne (fun e=>by subst e;rw [y2] at h1;cases h1)];exact h1) (by omega)
      have hr2:L'[2]? = some (.cells (zAy [a,ii turn,.sl (nx h 7) 0 (sp.length - 1) (some (sp.length - 1)) 75]) 67):=hkeep 67 2 _ (by rw [yAx (by omega),List.getElem?_set_self (by omega)])
      have hr7:L'[7]? = some (.cells (zAy ((paidT pf sp).map ii)) 112):=hkeep 112 7 _ (by rw [← hTp];exact xFx (by omega) _)
      have hld2 : ∀ w,loadAgg (nx h 2) 0 (some 3) (X h L' w)=some (.agg [a,ii turn,.sl (nx h 7) 0 (sp.length - 1) (some (sp.length - 1)) 75]):=fun w=>by
        rw [zFz wf,hr2]
        rw [zPv (by decide)];rfl
      refine zJv _ _ htk (retc0 (by decide) (by simp (disch:=first|omega|(simp only [List.length_cons,List.length_nil,List.length_append];omega)) only [bb,bp,zKx,↓reduceIte,reduceCtorEq,Nat.reduceEqDiff,Nat.reduceLT,Nat.reduceLeDiff,Nat.reduceAdd,Nat.reduceMul,Nat.reduceSub,Nat.reduceBEq,Int.reduceToNat,cond_true,cond_false,eq_self,beq_self_eq_true,g4,hld2,tEvT19,zHw,zKw,zAw wf];rfl)) ?_
      refine yCz (by
        show (_ && flat (prv a turn _ _))=false
        rw [flat_prv hs];exact Bool.and_false _) ?_
      have hmin : ∀ w',h.clock≤w'→min h.w w'=h.w:=fun w' h'=>by have:=wf.wle;omega
      rw [hmin _ hw2']
      exact ⟨_,7,rfl,rfl,hr7⟩
end Go.Proofs.YtkmdidplmfdikaaDoor
end

section
namespace Go.Ev
def byI (bs:List Int) (r:Int × Int) (k:Nat):Int:=r.1+(if bs.length=0 then 0 else bs.getD (k % bs.length) 0 % (r.2 - r.1+1))
def lineB (sp:List (Int × Int)) (bs:List Int) (n:Nat):List Int:=(List.range n).map fun k=>byI bs (spot sp k) k
theorem InR.of_get : ∀ {R:List (Int × Int)} {l:List Int},l.length=R.length→(∀ i (hi:i<R.length) (hl:i<l.length),R[i].1≤l[i]∧l[i]≤R[i].2)→InR R l
  | [],[],_,_=>rfl
  | r :: R,c :: cs,e,h=>⟨c,cs,rfl,(h 0 (by simp) (by simp)).1,(h 0 (by simp) (by simp)).2,InR.of_get (by simpa using e) fun i hi hl=>by
      have:=h (i+1) (by simp;omega) (by simp;omega)
      simpa using this⟩
end Go.Ev
end

section
namespace Go.Proofs.YtkmdidplmfdikaaDoor
open Go.Ev
set_option maxRecDepth 100000
set_option linter.unusedSimpArgs false
set_option linter.unusedVariables false

def runS :Stt→List Int→Stt
  | x,[]=>x
  | x,c :: cs=>runS (nxt x c) cs
theorem runS_app : ∀ (p q:List Int) (x:Stt),runS x (p++q)=runS (runS x p) q
  | [],_,_=>rfl
  | c :: p,q,x=>runS_app p q (nxt x c)
theorem xYy {pf:Int→Int→Int→Int→Int} (x:Stt) (c:Int) (cs:List Int):costL pf x.a x.b x.s (c :: cs)=pf x.a x.b x.s c+costL pf (nxt x c).a (nxt x c).b (nxt x c).s cs:=by
  show pf x.a x.b x.s c+costL pf x.b c (nsg x.s (x.a - 2 * x.b+c)) cs=pf x.a x.b x.s c+costL pf x.b c ((nxt x c).s:Int) cs
  rw [nxt_s];rfl
theorem xBz {pf:Int→Int→Int→Int→Int} : ∀ (p q:List Int) (x:Stt),costL pf x.a x.b x.s (p++q)=costL pf x.a x.b x.s p+costL pf (runS x p).a (runS x p).b (runS x p).s q
  | [],q,x=>by show _=(0:Int)+costL pf x.a x.b x.s q;rw [Int.zero_add];rfl
  | c :: p,q,x=>by
    have ih:=xBz (pf:=pf) p q (nxt x c)
    rw [List.cons_append,xYy,xYy,ih]
    show _=_+costL pf (runS (nxt x c) p).a (runS (nxt x c) p).b (runS (nxt x c) p).s q
    omega
theorem runS_i : ∀ (p:List Int) (x:Stt),(runS x p).i=x.i+p.length
  | [],x=>rfl
  | c :: p,x=>by
    have:=runS_i p (nxt x c)
    show (runS (nxt x c) p).i=_
    rw [this,List.length_cons]
    show x.i+1+p.length=_
    omega
def InFrom (sp:List (Int × Int)) (i:Nat) (cs:List Int):Prop:=i+cs.length<sp.length ∧ ∀ (j:Nat) (c:Int),cs[j]? = some c→(spot sp (i+1+j)).1≤c∧c≤(spot sp (i+1+j)).2
theorem InFrom.cons {sp:List (Int × Int)} {i:Nat} {c:Int} {cs:List Int} (x:InFrom sp i (c :: cs)):(i+1<sp.length∧(spot sp (i+1)).1≤c∧c≤(spot sp (i+1)).2)∧InFrom sp (i+1) cs:=by
  obtain ⟨h1,h2⟩:=x
  rw [List.length_cons] at h1
  refine ⟨⟨by omega,by have:=h2 0 c rfl;rwa [Nat.add_zero] at this⟩,by omega,fun j d hd=>?_⟩
  have:=h2 (j+1) d (by simpa using hd)
  rwa [show i+1+(j+1)=i+1+1+j by omega] at this
theorem runS_ok {sp:List (Int × Int)} : ∀ {cs:List Int} {x:Stt},x.Ok sp→InFrom sp x.i cs→(runS x cs).Ok sp
  | [],_,hx,_=>hx
  | c :: cs,x,hx,h=>by
    obtain ⟨⟨h1,h2⟩,h3⟩:=h.cons
    exact runS_ok (x:=nxt x c) (xIv hx h1 h2) h3
section
variable {pf:Int→Int→Int→Int→Int} {sp:List (Int × Int)} (hsp:SpotsOK sp) (hpf : ∀ (a b s c:Int),Off a→Off b→Off c→0≤pf a b s c∧pf a b s c≤5000000)
include hsp hpf
theorem pf_in {x:Stt} (hx:x.Ok sp) {c:Int} (h1:x.i+1<sp.length) (h2:(spot sp (x.i+1)).1≤c∧c≤(spot sp (x.i+1)).2):0≤pf x.a x.b x.s c∧pf x.a x.b x.s c≤5000000:=by
  obtain ⟨⟨i1,i2⟩,i3,i4,_⟩:=hx
  obtain ⟨⟨a1,a2⟩,⟨a3,a4⟩,_,_⟩:=hsp.at (i:=x.i - 1) (by omega)
  obtain ⟨⟨b1,b2⟩,⟨b3,b4⟩,_,_⟩:=hsp.at i2
  obtain ⟨⟨c1,c2⟩,⟨c3,c4⟩,_,_⟩:=hsp.at h1
  exact hpf _ _ _ _ ⟨by omega,by omega⟩ ⟨by omega,by omega⟩ ⟨by omega,by omega⟩
theorem paid_le {Tb:List Int} (P:PD pf sp (sp.length - 1) Tb) : ∀ {cs:List Int} {x:Stt},x.Ok sp→InFrom sp x.i cs→tb sp Tb x<farI→tb sp Tb (runS x cs)<farI∧tb sp Tb (runS x cs)≤tb sp Tb x+costL pf x.a x.b x.s cs
  | [],x,_,_,hf=>⟨hf,by show _≤tb sp Tb x+(0:Int);rw [Int.add_zero];exact Int.le_refl _⟩
  | c :: cs,x,hx,h,hf=>by
    have n24:=hsp.n24
    obtain ⟨⟨h1,h2⟩,h3⟩:=h.cons
    have hn:=xIv hx h1 h2
    have hle:=P.le x c hx (by omega) hf h2.1 h2.2
    have hsm:=P.sm x hx hf
    have hb:=pf_in hsp hpf hx h1 h2
    have hlt:tb sp Tb (nxt x c)<farI:=by
      unfold farI at *
      have:(x.i:Int)≤24:=by omega
      omega
    obtain ⟨r1,r2⟩:=paid_le P (cs:=cs) hn h3 hlt
    refine ⟨r1,?_⟩
    rw [xYy]
    show tb sp Tb (runS (nxt x c) cs)≤_
    omega
theorem paid_ex {Tb:List Int} (P:PD pf sp (sp.length - 1) Tb) : ∀ (m:Nat) (x:Stt),x.i≤m→x.Ok sp→tb sp Tb x<farI → ∃ (a b:Int) (cs:List Int),(⟨1,a,b,0⟩:Stt).Ok sp∧InFrom sp 1 cs∧runS ⟨1,a,b,0⟩ cs=x∧costL pf a b 0 cs=tb sp Tb x
  | 0,x,hm,hx,_=>by have:=hx.1.1;omega
  | m+1,x,hm,hx,hf=>by
    by_cases h1:x.i=1
    · have h2:=P.one x hx h1
      by_cases hs:x.s=0
      · rw [if_pos hs] at h2
        obtain ⟨i,a,b,s⟩:=x
        dsimp only at h1 hs
        subst h1
        subst hs
        exact ⟨a,b,[],hx,⟨by have:=hx.1.2;simpa using this,fun j c hc=>by simp at hc⟩,rfl,by rw [h2];rfl⟩
      · rw [if_neg hs] at h2;omega
    · have hi:=hx.1.1
      rcases P.ex x hx (by omega) with h2|⟨y,y1,y2,y3,y4,y5⟩
      · omega
      · obtain ⟨a,b,cs,k1,k2,k3,k4⟩:=paid_ex P m y (by omega) y1 y4
        have hyi:1+cs.length=y.i:=by rw [← k3,runS_i]
        refine ⟨a,b,cs++[x.b],k1,⟨?_,fun j c hc=>?_⟩,?_,?_⟩
        · rw [List.length_append]
          have:=hx.1.2
          show 1+(cs.length+1)<sp.length
          omega
        · by_cases hj:j<cs.length
          · rw [List.getElem?_append_left hj] at hc
            exact k2.2 j c hc
          · have hjl:=zHv hc
            rw [List.length_append,List.length_cons,List.length_nil] at hjl
            have hje:j=cs.length:=by omega
            subst hje
            rw [zPx] at hc
            cases hc
            rw [show 1+1+cs.length=x.i by omega]
            exact hx.2.2.1
        · rw [runS_app,k3];exact y3
        · have:=xBz (pf:=pf) cs [x.b] ⟨1,a,b,0⟩
          rw [k3] at this
          show costL pf a b 0 (cs++[x.b])=_
          have e:costL pf a b 0 (cs++[x.b])=costL pf a b 0 cs+(pf y.a y.b y.s x.b+0):=this
          rw [e,k4,y5];omega
end

theorem xVx {sp:List (Int × Int)} {l:List Int} (h:InR sp l) {i:Nat} {c:Int} (hc:l[i]? = some c):(spot sp i).1≤c∧c≤(spot sp i).2:=by
  have hi:i<sp.length:=by rw [← h.length];exact zHv hc
  have key : ∀ {R:List (Int × Int)} {l:List Int},InR R l → ∀ (i:Nat) (p:Int × Int) (c:Int),R[i]? = some p→l[i]? = some c→p.1≤c∧c≤p.2:=by
    intro R
    induction R with
    | nil=>intro l h i p c h1 _;simp at h1
    | cons r R ih=>
      rintro l ⟨d,ds,rfl,h1,h2,h3⟩ i p c e1 e2
      cases i with
      | zero=>
        simp only [List.getElem?_cons_zero,Option.some.injEq] at e1 e2
        subst e1;subst e2;exact ⟨h1,h2⟩
      | succ i=>exact ih h3 i p c (by simpa using e1) (by simpa using e2)
  exact key h i _ c (by rw [List.getElem?_eq_getElem hi,zQy hi]) hc
theorem inR_of {sp:List (Int × Int)} {l:List Int} (hl:l.length=sp.length) (h : ∀ (i:Nat) (c:Int),l[i]? = some c→(spot sp i).1≤c∧c≤(spot sp i).2):InR sp l:=by
  refine InR.of_get hl fun i hi hj=>?_
  rw [zQy hi]
  exact h i _ (List.getElem?_eq_getElem hj)
theorem spot_drop {sp:List (Int × Int)} {m j:Nat} : spot (sp.drop m) j=spot sp (m+j):=by unfold spot;simp [List.getD]
theorem inR_drop {sp:List (Int × Int)} {m:Nat} {q:List Int} (hl:m+q.length=sp.length) (h : ∀ (j:Nat) (c:Int),q[j]? = some c→(spot sp (m+j)).1≤c∧c≤(spot sp (m+j)).2):InR (sp.drop m) q:=by
  refine inR_of (by rw [List.length_drop];omega) fun j c hc=>?_
  rw [spot_drop];exact h j c hc
theorem runS_ab : ∀ (pre:List Int) (a b:Int) (i s:Nat),(a :: b :: pre)[pre.length]? = some (runS ⟨i,a,b,s⟩ pre).a∧(a :: b :: pre)[pre.length+1]? = some (runS ⟨i,a,b,s⟩ pre).b
  | [],a,b,i,s=>⟨rfl,rfl⟩
  | c :: pre,a,b,i,s=>by
    obtain ⟨h1,h2⟩:=runS_ab pre b c (i+1) (nxt ⟨i,a,b,s⟩ c).s
    exact ⟨h1,h2⟩
theorem spots_of {sp:List (Int × Int)} (hsp:SpotsOK sp) (m:Nat):Spots (sp.drop m):=fun r hr=>(hsp.ok r (List.mem_of_mem_drop hr)).2.2.1
theorem through_le {pf:Int→Int→Int→Int→Int} {sp:List (Int × Int)} (hsp:SpotsOK sp) (hpf : ∀ (a b s c:Int),Off a→Off b→Off c→0≤pf a b s c∧pf a b s c≤5000000) {Tb:List Int} (P:PD pf sp (sp.length - 1) Tb) {l:List Int} (hl:InR sp l) {i:Nat} (hi:1≤i∧i<sp.length) :
    ∃ x:Stt,x.Ok sp∧x.i=i∧l[i - 1]? = some x.a∧l[i]? = some x.b∧tb sp Tb x<farI∧tb sp Tb x+dueS pf sp x≤Cost pf l:=by
  have n2:=hsp.n2
  have hlen:=hl.length
  match l,hlen,hl with
  | [],hlen,_=>simp at hlen;omega
  | [_],hlen,_=>simp at hlen;omega
  | a :: b :: cs,hlen,hl=>
    have hcl:cs.length+2=sp.length:=by simpa using hlen
    have ha:=xVx hl (i:=0) (c:=a) rfl
    have hb:=xVx hl (i:=1) (c:=b) rfl
    have h0:(⟨1,a,b,0⟩:Stt).Ok sp:=⟨⟨Nat.le_refl 1,by show 1<sp.length;omega⟩,ha,hb,(show 0<3 by decide)⟩
    have hsplit:cs=cs.take (i - 1)++cs.drop (i - 1):=(List.take_append_drop _ _).symm
    have hpl:(cs.take (i - 1)).length=i - 1:=by rw [List.length_take];omega
    generalize hp:cs.take (i - 1)=pre at *
    generalize hq:cs.drop (i - 1)=post at *
    have hpost:post.length=sp.length - 1 - i:=by rw [← hq,List.length_drop];omega
    have hget : ∀ (j:Nat) (c:Int),cs[j]? = some c→(spot sp (j+2)).1≤c∧c≤(spot sp (j+2)).2:=fun j c hc=>xVx hl (i:=j+2) (c:=c) (by simpa using hc)
    have hin:InFrom sp 1 pre:=⟨by omega,fun j c hc=>by
      have:=hget j c (by rw [hsplit,List.getElem?_append_left (zHv hc)];exact hc)
      rwa [show 1+1+j=j+2 by omega]⟩
    have hok:=runS_ok h0 hin
    have hone:=P.one _ h0 rfl
    rw [if_pos rfl] at hone
    obtain ⟨r1,r2⟩:=paid_le hsp hpf P h0 hin (by rw [hone];unfold farI;omega)
    have hri:(runS ⟨1,a,b,0⟩ pre).i=i:=by rw [runS_i];show 1+pre.length=i;omega
    obtain ⟨g1,g2⟩:=runS_ab pre a b 1 0
    have hdue:dueS pf sp (runS ⟨1,a,b,0⟩ pre)≤costL pf (runS ⟨1,a,b,0⟩ pre).a (runS ⟨1,a,b,0⟩ pre).b (runS ⟨1,a,b,0⟩ pre).s post:=by
      refine due_le (turn:=pf) _ _ _ (spots_of hsp _) (inR_drop (by rw [hri];omega) fun j c hc=>?_)
      have:=hget (i - 1+j) c (by rw [hsplit,List.getElem?_append_right (by omega),hpl,Nat.add_sub_cancel_left];exact hc)
      rw [hri]
      rwa [show i+1+j=i - 1+j+2 by omega]
    refine ⟨_,hok,hri,?_,?_,r1,?_⟩
    · rw [hsplit,← List.cons_append,← List.cons_append,List.getElem?_append_left (by simp only [List.length_cons];omega),show i - 1=pre.length by omega];exact g1
    · rw [hsplit,← List.cons_append,← List.cons_append,List.getElem?_append_left (by simp only [List.length_cons];omega),show i=pre.length+1 by omega];exact g2
    · have hc:=xBz (pf:=pf) pre post ⟨1,a,b,0⟩
      rw [← hsplit] at hc
      have hc':Cost pf (a :: b :: cs)=costL pf a b 0 pre+costL pf (runS ⟨1,a,b,0⟩ pre).a (runS ⟨1,a,b,0⟩ pre).b (runS ⟨1,a,b,0⟩ pre).s post:=hc
      rw [hone] at r2
      have r2':tb sp Tb (runS ⟨1,a,b,0⟩ pre)≤0+costL pf a b 0 pre:=r2
      omega
theorem through_ex {pf:Int→Int→Int→Int→Int} {sp:List (Int × Int)} (hsp:SpotsOK sp) (hpf : ∀ (a b s c:Int),Off a→Off b→Off c→0≤pf a b s c∧pf a b s c≤5000000) {Tb:List Int} (P:PD pf sp (sp.length - 1) Tb) {x:Stt} (hx:x.Ok sp) (hf:tb sp Tb x<farI) :
    ∃ l,InR sp l∧l[x.i - 1]? = some x.a∧l[x.i]? = some x.b∧Cost pf l=tb sp Tb x+dueS pf sp x:=by
  obtain ⟨a,b,pre,k1,k2,k3,k4⟩:=paid_ex hsp hpf P x.i x (Nat.le_refl _) hx hf
  have hg:=greedy_in (turn:=pf) (R:=sp.drop (x.i+1)) x.a x.b x.s (spots_of hsp _)
  have hgc:=xVv (turn:=pf) (R:=sp.drop (x.i+1)) x.a x.b x.s (spots_of hsp _)
  generalize greedy pf (sp.drop (x.i+1)) x.a x.b x.s=post at *
  have hpl:pre.length+1=x.i:=by have:=runS_i pre ⟨1,a,b,0⟩;rw [k3] at this;have h2:x.i=1+pre.length:=this;omega
  have hi:=hx.1.2
  have hpost:post.length=sp.length - (x.i+1):=by rw [hg.length,List.length_drop]
  obtain ⟨g1,g2⟩:=runS_ab pre a b 1 0
  rw [k3] at g1 g2
  refine ⟨a :: b :: (pre++post),inR_of (by simp only [List.length_cons,List.length_append];omega) fun i c hc=>?_,?_,?_,?_⟩
  · rcases (show i=0∨i=1∨2≤i by omega) with rfl|rfl|h2
    · simp only [List.getElem?_cons_zero,Option.some.injEq] at hc
      subst hc;exact k1.2.1
    · simp only [List.getElem?_cons_succ,List.getElem?_cons_zero,Option.some.injEq] at hc
      subst hc;exact k1.2.2.1
    · obtain ⟨j,rfl⟩ : ∃ j,i=j+2:=⟨i - 2,by omega⟩
      simp only [List.getElem?_cons_succ] at hc
      by_cases hj:j<pre.length
      · rw [List.getElem?_append_left hj] at hc
        have:=k2.2 j c hc
        rwa [show 1+1+j=j+2 by omega] at this
      · rw [List.getElem?_append_right (by omega)] at hc
        have:=xVx hg hc
        rw [spot_drop] at this
        rwa [show x.i+1+(j - pre.length)=j+2 by omega] at this
  · rw [← List.cons_append,← List.cons_append,List.getElem?_append_left (by simp only [List.length_cons];omega),show x.i - 1=pre.length by omega];exact g1
  · rw [← List.cons_append,← List.cons_append,List.getElem?_append_left (by simp only [List.length_cons];omega),show x.i=pre.length+1 by omega];exact g2
  · have hc:=xBz (pf:=pf) pre post ⟨1,a,b,0⟩
    rw [k3] at hc
    have hc':Cost pf (a :: b :: (pre++post))=costL pf a b 0 pre+costL pf x.a x.b x.s post:=hc
    rw [hc',k4,hgc];rfl
end Go.Proofs.YtkmdidplmfdikaaDoor
end

section
namespace Go.Proofs.YtkmdidplmfdikaaDoor
open Go.Ev
set_option maxRecDepth 100000
set_option linter.unusedSimpArgs false
set_option linter.unusedVariables false
set_option maxHeartbeats 4000000

theorem tEvT21 :type_of% (And.intro (And.intro (And.intro (And.intro (And.intro (@zSv) (@xNy)) (And.intro (@ia_2) (@sz_2))) (And.intro (And.intro (@ze_2) (@ia_3)) (And.intro (@sz_3) (@zSy)))) (And.intro (And.intro (And.intro (@ia_4) (@sz_4)) (And.intro (@zTx) (@zRx))) (And.intro (And.intro (@zOv) (@zVw)) (And.intro (@zUv) (And.intro (@zVx) (@zZv)))))) (And.intro (And.intro (And.intro (And.intro (@zZw) (@zSx)) (And.intro (@zSz) (@zSw))) (And.intro (And.intro (@zXv) (@zUz)) (And.intro (@zOw) (@zOx)))) (And.intro (And.intro (And.intro (@zOy) (@zOz)) (And.intro (@zMy) (@zMz))) (And.intro (And.intro (@yCy) (@pb_77)) (And.intro (@pb_58) (And.intro (@pb_59) (@xNz))))))):=And.intro (And.intro (And.intro (And.intro (And.intro (@zSv) (@xNy)) (And.intro (@ia_2) (@sz_2))) (And.intro (And.intro (@ze_2) (@ia_3)) (And.intro (@sz_3) (@zSy)))) (And.intro (And.intro (And.intro (@ia_4) (@sz_4)) (And.intro (@zTx) (@zRx))) (And.intro (And.intro (@zOv) (@zVw)) (And.intro (@zUv) (And.intro (@zVx) (@zZv)))))) (And.intro (And.intro (And.intro (And.intro (@zZw) (@zSx)) (And.intro (@zSz) (@zSw))) (And.intro (And.intro (@zXv) (@zUz)) (And.intro (@zOw) (@zOx)))) (And.intro (And.intro (And.intro (@zOy) (@zOz)) (And.intro (@zMy) (@zMz))) (And.intro (And.intro (@yCy) (@pb_77)) (And.intro (@pb_58) (And.intro (@pb_59) (@xNz))))))
theorem offset (x:Stt) (i:Nat) (h:H) (wf:Wf h):(om Tryd.prog KK).call (.fn 57 [stv x,ii (i:Int)]) h = .ok (ii (if i=x.i then x.b else x.a)) h:=by
  by_cases e:i=x.i
  · rw [if_pos e]
    have e':(i:Int)=(x.i:Int):=by omega
    refine zWv (zKv (fn:=Tryd.f57) Tryd.func57 rfl rfl rfl rfl rfl ?_)
    simp only [zKx]
    unfold stv
    (repeat' (first
  | (with_reducible first|refine zJz ?_|refine zGw ?_|refine zEw ?_|refine zEx ?_|refine zEv ?_|refine zJy ?_|refine zGv ?_|refine zBw ?_|refine zDx ?_|refine zBv ?_|refine zCx ?_|refine zEz ?_|refine zCw ?_|refine zCz ?_|refine zBz ?_|refine zDv ?_|refine zDy ?_|refine zAx ?_|refine zAv ?_)
  | refine zCv ?_|refine zEy rfl ?_|refine zIx ?_|refine zIv ?_
  | ((first|refine zGx rfl rfl rfl rfl rfl fun K_ hK_=>?_|refine zGy rfl rfl rfl rfl rfl fun K_ hK_=>?_);simp only [zAz,zDz,zFw,↓reduceIte,reduceCtorEq,Nat.reduceEqDiff,Bool.not_true,Bool.not_false];refine hK_ _ ?_;clear hK_ K_)
  | refine zDw (by decide) ?_
  | ((try first|refine zJx rfl rfl rfl ?_|refine zIy rfl rfl ?_|refine zJw rfl rfl rfl ?_|refine zIw rfl rfl ?_);(refine zIz fun Q_ hQ_=>?_;simp (disch:=first|omega|(simp only [List.length_cons,List.length_nil,List.length_append];omega)) only [bb,bp,zKx,↓reduceIte,reduceCtorEq,Nat.reduceEqDiff,Nat.reduceLT,Nat.reduceLeDiff,Nat.reduceAdd,Nat.reduceMul,Nat.reduceSub,Nat.reduceBEq,Int.reduceToNat,cond_true,cond_false,eq_self,beq_self_eq_true,zHz wf,zHx wf,zFz wf,zHy wf,zBx wf,zFy,tEvT21,zHw,zNv,zAw wf];first|(refine zCy (Q:=Q_) (fun hp_=>?_) (fun hp_=>?_) <;> first|(exfalso;omega)|(refine hQ_ _ _ ?_;clear hQ_ Q_))|(refine zBy (Q:=Q_) (fun hp_=>?_) (fun hp_=>?_) <;> first|(exfalso;omega)|(refine hQ_ _ _ ?_;clear hQ_ Q_))|(refine hQ_ _ _ ?_;clear hQ_ Q_)))
  | (refine zFv fun K_ hK_=>?_;simp (disch:=omega) only [zFx,zAz,zGz,↓reduceIte,reduceCtorEq,Nat.reduceEqDiff,Nat.reduceLT];refine hK_ _ ?_;clear hK_ K_)))
    (refine zJv _ _ rfl (ret1 (by decide)) ?_;simp only [zAz,↓reduceIte,reduceCtorEq,Nat.reduceEqDiff];refine zMw rfl (by omega) ?_)
    exact ⟨rfl,rfl⟩
  · rw [if_neg e]
    have e' : ¬ (i:Int)=(x.i:Int):=by omega
    refine zWv (zKv (fn:=Tryd.f57) Tryd.func57 rfl rfl rfl rfl rfl ?_)
    simp only [zKx]
    unfold stv
    (repeat' (first
  | (with_reducible first|refine zJz ?_|refine zGw ?_|refine zEw ?_|refine zEx ?_|refine zEv ?_|refine zJy ?_|refine zGv ?_|refine zBw ?_|refine zDx ?_|refine zBv ?_|refine zCx ?_|refine zEz ?_|refine zCw ?_|refine zCz ?_|refine zBz ?_|refine zDv ?_|refine zDy ?_|refine zAx ?_|refine zAv ?_)
  | refine zCv ?_|refine zEy rfl ?_|refine zIx ?_|refine zIv ?_
  | ((first|refine zGx rfl rfl rfl rfl rfl fun K_ hK_=>?_|refine zGy rfl rfl rfl rfl rfl fun K_ hK_=>?_);simp only [zAz,zDz,zFw,↓reduceIte,reduceCtorEq,Nat.reduceEqDiff,Bool.not_true,Bool.not_false];refine hK_ _ ?_;clear hK_ K_)
  | refine zDw (by decide) ?_
  | ((try first|refine zJx rfl rfl rfl ?_|refine zIy rfl rfl ?_|refine zJw rfl rfl rfl ?_|refine zIw rfl rfl ?_);(refine zIz fun Q_ hQ_=>?_;simp (disch:=first|omega|(simp only [List.length_cons,List.length_nil,List.length_append];omega)) only [bb,bp,zKx,↓reduceIte,reduceCtorEq,Nat.reduceEqDiff,Nat.reduceLT,Nat.reduceLeDiff,Nat.reduceAdd,Nat.reduceMul,Nat.reduceSub,Nat.reduceBEq,Int.reduceToNat,cond_true,cond_false,eq_self,beq_self_eq_true,zHz wf,zHx wf,zFz wf,zHy wf,zBx wf,zFy,tEvT21,zHw,zNv,zAw wf];first|(refine zCy (Q:=Q_) (fun hp_=>?_) (fun hp_=>?_) <;> first|(exfalso;omega)|(refine hQ_ _ _ ?_;clear hQ_ Q_))|(refine zBy (Q:=Q_) (fun hp_=>?_) (fun hp_=>?_) <;> first|(exfalso;omega)|(refine hQ_ _ _ ?_;clear hQ_ Q_))|(refine hQ_ _ _ ?_;clear hQ_ Q_)))
  | (refine zFv fun K_ hK_=>?_;simp (disch:=omega) only [zFx,zAz,zGz,↓reduceIte,reduceCtorEq,Nat.reduceEqDiff,Nat.reduceLT];refine hK_ _ ?_;clear hK_ K_)))
    (refine zJv _ _ rfl (ret1 (by decide)) ?_;simp only [zAz,↓reduceIte,reduceCtorEq,Nat.reduceEqDiff];refine zMw rfl (by omega) ?_)
    exact ⟨rfl,rfl⟩

abbrev bb' (b:Bool):AV:=.bool b
def fst' (ms:List Bool):Nat:=ms.findIdx id
theorem fst_none {ms:List Bool} (h : ∀ j,j<ms.length→ms[j]? = some false):fst' ms=ms.length:=by
  unfold fst'
  rw [List.findIdx_eq_length]
  intro b hb
  obtain ⟨j,hj⟩:=List.getElem?_of_mem hb
  rw [h j (zHv hj)] at hj
  cases hj;rfl
theorem fst_some {ms:List Bool} {k:Nat} (h : ∀ j,j<k→ms[j]? = some false) (hk:ms[k]? = some true):fst' ms=k:=by
  unfold fst'
  have hl:=zHv hk
  rw [List.findIdx_eq hl]
  refine ⟨?_,fun j hj=>?_⟩
  · rw [List.getElem?_eq_getElem hl] at hk;exact Option.some.inj hk
  · have:=h j hj
    rw [List.getElem?_eq_getElem (by omega)] at this
    exact Option.some.inj this
def idxI (ms:List Bool):Int:=if fst' ms<ms.length then (fst' ms:Int) else -1
theorem index (ms:List Bool) (hn:ms.length≤1000000) (v:AV) (h:H) (wf:Wf h) (hs:Sl h v 1 ms.length (ms.map bb')) :
    (om Tryd.prog KK).call (.fn 77 [v,.bool true]) h = .ok (ii (idxI ms)) h:=by
  refine zWv (zKv (fn:=Tryd.f77) Tryd.func77 rfl rfl rfl rfl rfl ?_)
  simp only [zKx]
  have hlen : ∀ h',lenE Tryd.prog 93 v h'=some (ii (ms.length:Int)):=fun h'=>hs.len un_93
  have heqT : ∀ (x y:Operand),binE Tryd.prog .eql 4 x y (.bool true) (.bool true)=some (.bool true):=fun x y=>b_eqlB un_4
  have heqF : ∀ (x y:Operand),binE Tryd.prog .eql 4 x y (.bool true) (.bool false)=some (.bool false):=fun x y=>b_eqlB un_4
  (repeat' (first
  | (with_reducible first|refine zJz ?_|refine zGw ?_|refine zEw ?_|refine zEx ?_|refine zEv ?_|refine zJy ?_|refine zGv ?_|refine zBw ?_|refine zDx ?_|refine zBv ?_|refine zCx ?_|refine zEz ?_|refine zCw ?_|refine zCz ?_|refine zBz ?_|refine zDv ?_|refine zDy ?_|refine zAx ?_|refine zAv ?_)
  | refine zCv ?_|refine zEy rfl ?_|refine zIx ?_|refine zIv ?_
  | ((first|refine zGx rfl rfl rfl rfl rfl fun K_ hK_=>?_|refine zGy rfl rfl rfl rfl rfl fun K_ hK_=>?_);simp only [zAz,zDz,zFw,↓reduceIte,reduceCtorEq,Nat.reduceEqDiff,Bool.not_true,Bool.not_false];refine hK_ _ ?_;clear hK_ K_)
  | refine zDw (by decide) ?_
  | ((try first|refine zJx rfl rfl rfl ?_|refine zIy rfl rfl ?_|refine zJw rfl rfl rfl ?_|refine zIw rfl rfl ?_);(refine zIz fun Q_ hQ_=>?_;simp (disch:=first|omega|(simp only [List.length_cons,List.length_nil,List.length_append];omega)) only [bb,bp,zKx,↓reduceIte,reduceCtorEq,Nat.reduceEqDiff,Nat.reduceLT,Nat.reduceLeDiff,Nat.reduceAdd,Nat.reduceMul,Nat.reduceSub,Nat.reduceBEq,Int.reduceToNat,cond_true,cond_false,eq_self,beq_self_eq_true,hlen,tEvT21,zHw,zNv,zAw wf];first|(refine zCy (Q:=Q_) (fun hp_=>?_) (fun hp_=>?_) <;> first|(exfalso;omega)|(refine hQ_ _ _ ?_;clear hQ_ Q_))|(refine zBy (Q:=Q_) (fun hp_=>?_) (fun hp_=>?_) <;> first|(exfalso;omega)|(refine hQ_ _ _ ?_;clear hQ_ Q_))|(refine hQ_ _ _ ?_;clear hQ_ Q_)))
  | (refine zFv fun K_ hK_=>?_;simp (disch:=omega) only [zFx,zAz,zGz,↓reduceIte,reduceCtorEq,Nat.reduceEqDiff,Nat.reduceLT];refine hK_ _ ?_;clear hK_ K_)))
  refine zTv (fun (k:Nat) f d h'=>k≤ms.length∧f 0=v∧f 1 = .bool true∧f 7=ii (ms.length:Int)∧f 8=ii (k:Int)∧d=[]∧h'=X h [] h.clock ∧ ∀ j,j<k→ms[j]? = some false) (fun k=>ms.length - k) ?_ (ms.length+1) 0 (by omega) ?_
  rotate_left 1
  · exact ⟨by omega,by (try simp only [zAz,↓reduceIte,reduceCtorEq,Nat.reduceEqDiff]) <;> rfl,by (try simp only [zAz,↓reduceIte,reduceCtorEq,Nat.reduceEqDiff]) <;> rfl,by (try simp only [zAz,↓reduceIte,reduceCtorEq,Nat.reduceEqDiff]) <;> rfl,by (try simp only [zAz,↓reduceIte,reduceCtorEq,Nat.reduceEqDiff]) <;> rfl,rfl,rfl,fun j hj=>absurd hj (Nat.not_lt_zero _)⟩
  rintro k f d h' ⟨hk,g0,g1,g7,g8,rfl,rfl,hall⟩
  by_cases hlt:k<ms.length
  · obtain ⟨id,off,hix,hld⟩:=hs.at1 wf hlt ik_93
    rw [List.getElem?_map,List.getElem?_eq_getElem hlt] at hld
    have hld' : ∀ l w,load1 id off (X h l w)=some (.bool ms[k]):=hld
    by_cases hb:ms[k]=true
    · rw [hb] at hld'
      (repeat' (first
  | (with_reducible first|refine zJz ?_|refine zGw ?_|refine zEw ?_|refine zEx ?_|refine zEv ?_|refine zJy ?_|refine zGv ?_|refine zBw ?_|refine zDx ?_|refine zBv ?_|refine zCx ?_|refine zEz ?_|refine zCw ?_|refine zCz ?_|refine zBz ?_|refine zDv ?_|refine zDy ?_|refine zAx ?_|refine zAv ?_)
  | refine zCv ?_|refine zEy rfl ?_|refine zIx ?_|refine zIv ?_
  | ((first|refine zGx rfl rfl rfl rfl rfl fun K_ hK_=>?_|refine zGy rfl rfl rfl rfl rfl fun K_ hK_=>?_);simp only [zAz,zDz,zFw,↓reduceIte,reduceCtorEq,Nat.reduceEqDiff,Bool.not_true,Bool.not_false];refine hK_ _ ?_;clear hK_ K_)
  | refine zDw (by decide) ?_
  | ((try first|refine zJx rfl rfl rfl ?_|refine zIy rfl rfl ?_|refine zJw rfl rfl rfl ?_|refine zIw rfl rfl ?_);(refine zIz fun Q_ hQ_=>?_;simp (disch:=first|omega|(simp only [List.length_cons,List.length_nil,List.length_append];omega)) only [bb,bp,zKx,↓reduceIte,reduceCtorEq,Nat.reduceEqDiff,Nat.reduceLT,Nat.reduceLeDiff,Nat.reduceAdd,Nat.reduceMul,Nat.reduceSub,Nat.reduceBEq,Int.reduceToNat,cond_true,cond_false,eq_self,beq_self_eq_true,g0,g1,g7,g8,hix,hld',heqT,heqF,tEvT21,zHw,zNv,zAw wf];first|(refine zCy (Q:=Q_) (fun hp_=>?_) (fun hp_=>?_) <;> first|(exfalso;omega)|(refine hQ_ _ _ ?_;clear hQ_ Q_))|(refine zBy (Q:=Q_) (fun hp_=>?_) (fun hp_=>?_) <;> first|(exfalso;omega)|(refine hQ_ _ _ ?_;clear hQ_ Q_))|(refine hQ_ _ _ ?_;clear hQ_ Q_)))
  | (refine zFv fun K_ hK_=>?_;simp (disch:=omega) only [zFx,zAz,zGz,↓reduceIte,reduceCtorEq,Nat.reduceEqDiff,Nat.reduceLT];refine hK_ _ ?_;clear hK_ K_)))
      (refine zJv _ _ rfl (ret1 (by decide)) ?_;simp only [zAz,↓reduceIte,reduceCtorEq,Nat.reduceEqDiff];refine zMw rfl (by omega) ?_)
      have e:fst' ms=k:=fst_some hall (by rw [List.getElem?_eq_getElem hlt,hb])
      unfold idxI
      rw [e,if_pos hlt];exact ⟨rfl,rfl⟩
    · have hb':ms[k]=false:=by cases hx:ms[k] with|true=>exact absurd hx hb|false=>rfl
      rw [hb'] at hld'
      (repeat' (first
  | (with_reducible first|refine zJz ?_|refine zGw ?_|refine zEw ?_|refine zEx ?_|refine zEv ?_|refine zJy ?_|refine zGv ?_|refine zBw ?_|refine zDx ?_|refine zBv ?_|refine zCx ?_|refine zEz ?_|refine zCw ?_|refine zCz ?_|refine zBz ?_|refine zDv ?_|refine zDy ?_|refine zAx ?_|refine zAv ?_)
  | refine zCv ?_|refine zEy rfl ?_|refine zIx ?_|refine zIv ?_
  | ((first|refine zGx rfl rfl rfl rfl rfl fun K_ hK_=>?_|refine zGy rfl rfl rfl rfl rfl fun K_ hK_=>?_);simp only [zAz,zDz,zFw,↓reduceIte,reduceCtorEq,Nat.reduceEqDiff,Bool.not_true,Bool.not_false];refine hK_ _ ?_;clear hK_ K_)
  | refine zDw (by decide) ?_
  | ((try first|refine zJx rfl rfl rfl ?_|refine zIy rfl rfl ?_|refine zJw rfl rfl rfl ?_|refine zIw rfl rfl ?_);(refine zIz fun Q_ hQ_=>?_;simp (disch:=first|omega|(simp only [List.length_cons,List.length_nil,List.length_append];omega)) only [bb,bp,zKx,↓reduceIte,reduceCtorEq,Nat.reduceEqDiff,Nat.reduceLT,Nat.reduceLeDiff,Nat.reduceAdd,Nat.reduceMul,Nat.reduceSub,Nat.reduceBEq,Int.reduceToNat,cond_true,cond_false,eq_self,beq_self_eq_true,g0,g1,g7,g8,hix,hld',heqT,heqF,tEvT21,zHw,zNv,zAw wf];first|(refine zCy (Q:=Q_) (fun hp_=>?_) (fun hp_=>?_) <;> first|(exfalso;omega)|(refine hQ_ _ _ ?_;clear hQ_ Q_))|(refine zBy (Q:=Q_) (fun hp_=>?_) (fun hp_=>?_) <;> first|(exfalso;omega)|(refine hQ_ _ _ ?_;clear hQ_ Q_))|(refine hQ_ _ _ ?_;clear hQ_ Q_)))
  | (refine zFv fun K_ hK_=>?_;simp (disch:=omega) only [zFx,zAz,zGz,↓reduceIte,reduceCtorEq,Nat.reduceEqDiff,Nat.reduceLT];refine hK_ _ ?_;clear hK_ K_)))
      exact zKy (k+1) (by omega) ⟨hlt,by simp only [zAz,↓reduceIte,reduceCtorEq,Nat.reduceEqDiff];exact g0,by simp only [zAz,↓reduceIte,reduceCtorEq,Nat.reduceEqDiff];exact g1,by simp only [zAz,↓reduceIte,reduceCtorEq,Nat.reduceEqDiff];exact g7,by simp only [zAz,↓reduceIte,reduceCtorEq,Nat.reduceEqDiff];rfl,rfl,rfl,fun j hj=>by
        by_cases e:j=k
        · subst e;rw [List.getElem?_eq_getElem hlt,hb']
        · exact hall j (by omega)⟩
  · have hke:k=ms.length:=by omega
    subst hke
    (repeat' (first
  | (with_reducible first|refine zJz ?_|refine zGw ?_|refine zEw ?_|refine zEx ?_|refine zEv ?_|refine zJy ?_|refine zGv ?_|refine zBw ?_|refine zDx ?_|refine zBv ?_|refine zCx ?_|refine zEz ?_|refine zCw ?_|refine zCz ?_|refine zBz ?_|refine zDv ?_|refine zDy ?_|refine zAx ?_|refine zAv ?_)
  | refine zCv ?_|refine zEy rfl ?_|refine zIx ?_|refine zIv ?_
  | ((first|refine zGx rfl rfl rfl rfl rfl fun K_ hK_=>?_|refine zGy rfl rfl rfl rfl rfl fun K_ hK_=>?_);simp only [zAz,zDz,zFw,↓reduceIte,reduceCtorEq,Nat.reduceEqDiff,Bool.not_true,Bool.not_false];refine hK_ _ ?_;clear hK_ K_)
  | refine zDw (by decide) ?_
  | ((try first|refine zJx rfl rfl rfl ?_|refine zIy rfl rfl ?_|refine zJw rfl rfl rfl ?_|refine zIw rfl rfl ?_);(refine zIz fun Q_ hQ_=>?_;simp (disch:=first|omega|(simp only [List.length_cons,List.length_nil,List.length_append];omega)) only [bb,bp,zKx,↓reduceIte,reduceCtorEq,Nat.reduceEqDiff,Nat.reduceLT,Nat.reduceLeDiff,Nat.reduceAdd,Nat.reduceMul,Nat.reduceSub,Nat.reduceBEq,Int.reduceToNat,cond_true,cond_false,eq_self,beq_self_eq_true,g0,g1,g7,g8,tEvT21,zHw,zNv,zAw wf];first|(refine zCy (Q:=Q_) (fun hp_=>?_) (fun hp_=>?_) <;> first|(exfalso;omega)|(refine hQ_ _ _ ?_;clear hQ_ Q_))|(refine zBy (Q:=Q_) (fun hp_=>?_) (fun hp_=>?_) <;> first|(exfalso;omega)|(refine hQ_ _ _ ?_;clear hQ_ Q_))|(refine hQ_ _ _ ?_;clear hQ_ Q_)))
  | (refine zFv fun K_ hK_=>?_;simp (disch:=omega) only [zFx,zAz,zGz,↓reduceIte,reduceCtorEq,Nat.reduceEqDiff,Nat.reduceLT];refine hK_ _ ?_;clear hK_ K_)))
    (refine zJv _ _ rfl (ret1 (by decide)) ?_;simp only [zAz,↓reduceIte,reduceCtorEq,Nat.reduceEqDiff];refine zMw rfl (by omega) ?_)
    unfold idxI
    rw [fst_none hall,if_neg (by omega)];exact ⟨rfl,rfl⟩
theorem contains (ms:List Bool) (hn:ms.length≤1000000) (v:AV) (h:H) (wf:Wf h) (hs:Sl h v 1 ms.length (ms.map bb')) :
    (om Tryd.prog KK).call (.fn 58 [v,.bool true]) h = .ok (.bool (decide (fst' ms<ms.length))) h:=by
  refine zWv (zKv (fn:=Tryd.f58) Tryd.func58 rfl rfl rfl rfl rfl ?_)
  simp only [zKx]
  have hi : ∀ l w,w≤h.clock+l.length→(om Tryd.prog KK).call (.fn 77 [v,.bool true]) (X h l w) = .ok (ii (idxI ms)) (X h l w):=fun l w hw=>index ms hn v _ (wf.X hw) (hs.up wf _ _)
  have hv1:oneB v=true∧AV.cells v=[v]:=by obtain ⟨_,⟨rfl,_⟩|⟨_,_,_,_,_,_,rfl,_⟩⟩:=hs <;> exact ⟨rfl,rfl⟩
  have hid:idxI ms=if fst' ms<ms.length then (fst' ms:Int) else -1:=rfl
  by_cases e:fst' ms<ms.length
  · rw [if_pos e] at hid
    rw [decide_eq_true e]
    generalize idxI ms=ix at *
    subst hid
    (repeat' (first
  | (with_reducible first|refine zJz ?_|refine zGw ?_|refine zEw ?_|refine zEx ?_|refine zEv ?_|refine zJy ?_|refine zGv ?_|refine zBw ?_|refine zDx ?_|refine zBv ?_|refine zCx ?_|refine zEz ?_|refine zCw ?_|refine zCz ?_|refine zBz ?_|refine zDv ?_|refine zDy ?_|refine zAx ?_|refine zAv ?_)
  | refine zCv ?_|refine zEy rfl ?_|refine zIx ?_|refine zIv ?_
  | ((first|refine zGx rfl rfl rfl rfl rfl fun K_ hK_=>?_|refine zGy rfl rfl rfl rfl rfl fun K_ hK_=>?_);simp only [zAz,zDz,zFw,↓reduceIte,reduceCtorEq,Nat.reduceEqDiff,Bool.not_true,Bool.not_false];refine hK_ _ ?_;clear hK_ K_)
  | refine zDw (by decide) ?_
  | ((try first|refine zJx rfl rfl rfl ?_|refine zIy rfl rfl ?_|refine zJw rfl rfl rfl ?_|refine zIw rfl rfl ?_);(refine zIz fun Q_ hQ_=>?_;simp (disch:=first|omega|(simp only [List.length_cons,List.length_nil,List.length_append];omega)) only [bb,bp,zKx,↓reduceIte,reduceCtorEq,Nat.reduceEqDiff,Nat.reduceLT,Nat.reduceLeDiff,Nat.reduceAdd,Nat.reduceMul,Nat.reduceSub,Nat.reduceBEq,Int.reduceToNat,cond_true,cond_false,eq_self,beq_self_eq_true,hi,hv1.1,hv1.2,tEvT21,zHw,zNv,zAw wf];first|(refine zCy (Q:=Q_) (fun hp_=>?_) (fun hp_=>?_) <;> first|(exfalso;omega)|(refine hQ_ _ _ ?_;clear hQ_ Q_))|(refine zBy (Q:=Q_) (fun hp_=>?_) (fun hp_=>?_) <;> first|(exfalso;omega)|(refine hQ_ _ _ ?_;clear hQ_ Q_))|(refine hQ_ _ _ ?_;clear hQ_ Q_)))
  | (refine zFv fun K_ hK_=>?_;simp (disch:=omega) only [zFx,zAz,zGz,↓reduceIte,reduceCtorEq,Nat.reduceEqDiff,Nat.reduceLT];refine hK_ _ ?_;clear hK_ K_)))
    (refine zJv _ _ rfl (ret1 (by decide)) ?_;simp only [zAz,↓reduceIte,reduceCtorEq,Nat.reduceEqDiff];refine zMw rfl (by omega) ?_)
    exact ⟨rfl,rfl⟩
  · rw [if_neg e] at hid
    rw [decide_eq_false e]
    generalize idxI ms=ix at *
    subst hid
    (repeat' (first
  | (with_reducible first|refine zJz ?_|refine zGw ?_|refine zEw ?_|refine zEx ?_|refine zEv ?_|refine zJy ?_|refine zGv ?_|refine zBw ?_|refine zDx ?_|refine zBv ?_|refine zCx ?_|refine zEz ?_|refine zCw ?_|refine zCz ?_|refine zBz ?_|refine zDv ?_|refine zDy ?_|refine zAx ?_|refine zAv ?_)
  | refine zCv ?_|refine zEy rfl ?_|refine zIx ?_|refine zIv ?_
  | ((first|refine zGx rfl rfl rfl rfl rfl fun K_ hK_=>?_|refine zGy rfl rfl rfl rfl rfl fun K_ hK_=>?_);simp only [zAz,zDz,zFw,↓reduceIte,reduceCtorEq,Nat.reduceEqDiff,Bool.not_true,Bool.not_false];refine hK_ _ ?_;clear hK_ K_)
  | refine zDw (by decide) ?_
  | ((try first|refine zJx rfl rfl rfl ?_|refine zIy rfl rfl ?_|refine zJw rfl rfl rfl ?_|refine zIw rfl rfl ?_);(refine zIz fun Q_ hQ_=>?_;simp (disch:=first|omega|(simp only [List.length_cons,List.length_nil,List.length_append];omega)) only [bb,bp,zKx,↓reduceIte,reduceCtorEq,Nat.reduceEqDiff,Nat.reduceLT,Nat.reduceLeDiff,Nat.reduceAdd,Nat.reduceMul,Nat.reduceSub,Nat.reduceBEq,Int.reduceToNat,cond_true,cond_false,eq_self,beq_self_eq_true,hi,hv1.1,hv1.2,tEvT21,zHw,zNv,zAw wf];first|(refine zCy (Q:=Q_) (fun hp_=>?_) (fun hp_=>?_) <;> first|(exfalso;omega)|(refine hQ_ _ _ ?_;clear hQ_ Q_))|(refine zBy (Q:=Q_) (fun hp_=>?_) (fun hp_=>?_) <;> first|(exfalso;omega)|(refine hQ_ _ _ ?_;clear hQ_ Q_))|(refine hQ_ _ _ ?_;clear hQ_ Q_)))
  | (refine zFv fun K_ hK_=>?_;simp (disch:=omega) only [zFx,zAz,zGz,↓reduceIte,reduceCtorEq,Nat.reduceEqDiff,Nat.reduceLT];refine hK_ _ ?_;clear hK_ K_)))
    (refine zJv _ _ rfl (ret1 (by decide)) ?_;simp only [zAz,↓reduceIte,reduceCtorEq,Nat.reduceEqDiff];refine zMw rfl (by omega) ?_)
    exact ⟨rfl,rfl⟩

theorem marked (ms:List Bool) (hn:ms.length≤1000) (hf:fst' ms<ms.length) (lo:Int) (hlo:Off lo) (v:AV) (h:H) (wf:Wf h) (hs:Sl h v 1 ms.length (ms.map bb')) :
    ∃ (p q:Nat),ms[p]? = some true∧ms[q]? = some true∧(∀ j:Nat,ms[j]? = some true→p≤j∧j≤q)∧(om Tryd.prog KK).call (.fn 59 [ii lo,v]) h = .ok (.agg [ii (lo+(p:Int)),ii (lo+(q:Int))]) h:=by
  have hi : ∀ l w,w≤h.clock+l.length→(om Tryd.prog KK).call (.fn 77 [v,.bool true]) (X h l w) = .ok (ii (fst' ms:Int)) (X h l w):=fun l w hw=>by
    have:=index ms (by omega) v _ (wf.X hw) (hs.up wf l w)
    unfold idxI at this
    rwa [if_pos hf] at this
  have hv1:oneB v=true∧AV.cells v=[v]:=by obtain ⟨_,⟨rfl,_⟩|⟨_,_,_,_,_,_,rfl,_⟩⟩:=hs <;> exact ⟨rfl,rfl⟩
  have hp:ms[fst' ms]? = some true:=by
    have:=List.findIdx_getElem (xs:=ms) (p:=id) (w:=hf)
    rw [List.getElem?_eq_getElem hf]
    exact congrArg some this
  have hfirst : ∀ j,ms[j]? = some true→fst' ms≤j:=fun j hj=>by
    rcases Nat.lt_or_ge j (fst' ms) with hlt|hge
    · have:=List.not_of_lt_findIdx (xs:=ms) (p:=id) hlt
      rw [List.getElem?_eq_getElem (by omega)] at hj
      exact absurd (Option.some.inj hj) (by simpa using this)
    · exact hge
  generalize fst' ms=p at *
  obtain ⟨o1,o2⟩:=hlo
  have hlen : ∀ h',lenE Tryd.prog 93 v h'=some (ii (ms.length:Int)):=fun h'=>hs.len un_93
  have main:WV ((om Tryd.prog KK).call (.fn 59 [ii lo,v]) h) fun r h'=>∃ q:Nat,ms[q]? = some true∧(∀ j:Nat,ms[j]? = some true→j≤q)∧r = .agg [ii (lo+(p:Int)),ii (lo+(q:Int))]∧h'=h:=by
    refine zKv (fn:=Tryd.f59) Tryd.func59 rfl rfl rfl rfl rfl ?_
    simp only [zKx]
    (repeat' (first
  | (with_reducible first|refine zJz ?_|refine zGw ?_|refine zEw ?_|refine zEx ?_|refine zEv ?_|refine zJy ?_|refine zGv ?_|refine zBw ?_|refine zDx ?_|refine zBv ?_|refine zCx ?_|refine zEz ?_|refine zCw ?_|refine zCz ?_|refine zBz ?_|refine zDv ?_|refine zDy ?_|refine zAx ?_|refine zAv ?_)
  | refine zCv ?_|refine zEy rfl ?_|refine zIx ?_|refine zIv ?_
  | ((first|refine zGx rfl rfl rfl rfl rfl fun K_ hK_=>?_|refine zGy rfl rfl rfl rfl rfl fun K_ hK_=>?_);simp only [zAz,zDz,zFw,↓reduceIte,reduceCtorEq,Nat.reduceEqDiff,Bool.not_true,Bool.not_false];refine hK_ _ ?_;clear hK_ K_)
  | refine zDw (by decide) ?_
  | ((try first|refine zJx rfl rfl rfl ?_|refine zIy rfl rfl ?_|refine zJw rfl rfl rfl ?_|refine zIw rfl rfl ?_);(refine zIz fun Q_ hQ_=>?_;simp (disch:=first|omega|(simp only [List.length_cons,List.length_nil,List.length_append];omega)) only [bb,bp,zKx,↓reduceIte,reduceCtorEq,Nat.reduceEqDiff,Nat.reduceLT,Nat.reduceLeDiff,Nat.reduceAdd,Nat.reduceMul,Nat.reduceSub,Nat.reduceBEq,Int.reduceToNat,cond_true,cond_false,eq_self,beq_self_eq_true,hi,hlen,hv1.1,hv1.2,zHz wf,zHx wf,zFz wf,zHy wf,zBx wf,zFy,tEvT21,zHw,zNv,zAw wf];first|(refine zCy (Q:=Q_) (fun hp_=>?_) (fun hp_=>?_) <;> first|(exfalso;omega)|(refine hQ_ _ _ ?_;clear hQ_ Q_))|(refine zBy (Q:=Q_) (fun hp_=>?_) (fun hp_=>?_) <;> first|(exfalso;omega)|(refine hQ_ _ _ ?_;clear hQ_ Q_))|(refine hQ_ _ _ ?_;clear hQ_ Q_)))
  | (refine zFv fun K_ hK_=>?_;simp (disch:=omega) only [zFx,zAz,zGz,↓reduceIte,reduceCtorEq,Nat.reduceEqDiff,Nat.reduceLT];refine hK_ _ ?_;clear hK_ K_)))
    refine zTv (fun (k:Nat) f d h'=>(p≤k∧k≤ms.length)∧f 0=ii lo∧f 1=v∧f 4 = .ptr (nx h 0) 0∧f 5=ii (p:Int)∧f 7=ii (k:Int)∧d=[]∧(∃ w,h'=X h [.cells (zAy [ii 0,ii 0]) 51] w∧h.clock≤w∧w≤h.clock+1) ∧ ∃ q:Nat,f 6=ii (q:Int)∧ms[q]? = some true ∧ ∀ j,j<k→ms[j]? = some true→j≤q) (fun k=>ms.length - k) ?_ (ms.length+1) p (by omega) ?_
    rotate_left 1
    · exact ⟨⟨Nat.le_refl _,by omega⟩,by (try simp only [zAz,↓reduceIte,reduceCtorEq,Nat.reduceEqDiff]) <;> rfl,by (try simp only [zAz,↓reduceIte,reduceCtorEq,Nat.reduceEqDiff]) <;> rfl,by (try simp only [zAz,↓reduceIte,reduceCtorEq,Nat.reduceEqDiff]) <;> rfl,by (try simp only [zAz,↓reduceIte,reduceCtorEq,Nat.reduceEqDiff]) <;> rfl,by (try simp only [zAz,↓reduceIte,reduceCtorEq,Nat.reduceEqDiff]) <;> rfl,rfl,⟨_,rfl,by omega,by omega⟩,p,by (try simp only [zAz,↓reduceIte,reduceCtorEq,Nat.reduceEqDiff]) <;> rfl,hp,fun j hj hm=>by have:=hfirst j hm;omega⟩
    rintro k f d h' ⟨⟨hpk,hk⟩,g0,g1,g4,g5,g7,rfl,⟨w,rfl,hw1,hw2⟩,q,g6,hq,hall⟩
    have hql:=zHv hq
    by_cases hlt:k<ms.length
    · obtain ⟨id,off,hix,hld⟩:=hs.at1 wf hlt ik_93
      rw [List.getElem?_map,List.getElem?_eq_getElem hlt] at hld
      have hld' : ∀ l w,load1 id off (X h l w)=some (.bool ms[k]):=hld
      by_cases hb:ms[k]=true
      · rw [hb] at hld'
        (repeat' (first
  | (with_reducible first|refine zJz ?_|refine zGw ?_|refine zEw ?_|refine zEx ?_|refine zEv ?_|refine zJy ?_|refine zGv ?_|refine zBw ?_|refine zDx ?_|refine zBv ?_|refine zCx ?_|refine zEz ?_|refine zCw ?_|refine zCz ?_|refine zBz ?_|refine zDv ?_|refine zDy ?_|refine zAx ?_|refine zAv ?_)
  | refine zCv ?_|refine zEy rfl ?_|refine zIx ?_|refine zIv ?_
  | ((first|refine zGx rfl rfl rfl rfl rfl fun K_ hK_=>?_|refine zGy rfl rfl rfl rfl rfl fun K_ hK_=>?_);simp only [zAz,zDz,zFw,↓reduceIte,reduceCtorEq,Nat.reduceEqDiff,Bool.not_true,Bool.not_false];refine hK_ _ ?_;clear hK_ K_)
  | refine zDw (by decide) ?_
  | ((try first|refine zJx rfl rfl rfl ?_|refine zIy rfl rfl ?_|refine zJw rfl rfl rfl ?_|refine zIw rfl rfl ?_);(refine zIz fun Q_ hQ_=>?_;simp (disch:=first|omega|(simp only [List.length_cons,List.length_nil,List.length_append];omega)) only [bb,bp,zKx,↓reduceIte,reduceCtorEq,Nat.reduceEqDiff,Nat.reduceLT,Nat.reduceLeDiff,Nat.reduceAdd,Nat.reduceMul,Nat.reduceSub,Nat.reduceBEq,Int.reduceToNat,cond_true,cond_false,eq_self,beq_self_eq_true,g0,g1,g4,g5,g6,g7,hlen,hix,hld',tEvT21,zHw,zNv,zAw wf];first|(refine zCy (Q:=Q_) (fun hp_=>?_) (fun hp_=>?_) <;> first|(exfalso;omega)|(refine hQ_ _ _ ?_;clear hQ_ Q_))|(refine zBy (Q:=Q_) (fun hp_=>?_) (fun hp_=>?_) <;> first|(exfalso;omega)|(refine hQ_ _ _ ?_;clear hQ_ Q_))|(refine hQ_ _ _ ?_;clear hQ_ Q_)))
  | (refine zFv fun K_ hK_=>?_;simp (disch:=omega) only [zFx,zAz,zGz,↓reduceIte,reduceCtorEq,Nat.reduceEqDiff,Nat.reduceLT];refine hK_ _ ?_;clear hK_ K_)))
        exact zKy (k+1) (by omega) ⟨⟨by omega,hlt⟩,by simp only [zAz,↓reduceIte,reduceCtorEq,Nat.reduceEqDiff];exact g0,by simp only [zAz,↓reduceIte,reduceCtorEq,Nat.reduceEqDiff];exact g1,by simp only [zAz,↓reduceIte,reduceCtorEq,Nat.reduceEqDiff];exact g4,by simp only [zAz,↓reduceIte,reduceCtorEq,Nat.reduceEqDiff];exact g5,by simp only [zAz,↓reduceIte,reduceCtorEq,Nat.reduceEqDiff];rfl,rfl,⟨_,rfl,hw1,hw2⟩,k,by simp only [zAz,↓reduceIte,reduceCtorEq,Nat.reduceEqDiff],by rw [List.getElem?_eq_getElem hlt,hb],fun j hj hm=>by omega⟩
      · have hb':ms[k]=false:=by cases hx:ms[k] with|true=>exact absurd hx hb|false=>rfl
        rw [hb'] at hld'
        (repeat' (first
  | (with_reducible first|refine zJz ?_|refine zGw ?_|refine zEw ?_|refine zEx ?_|refine zEv ?_|refine zJy ?_|refine zGv ?_|refine zBw ?_|refine zDx ?_|refine zBv ?_|refine zCx ?_|refine zEz ?_|refine zCw ?_|refine zCz ?_|refine zBz ?_|refine zDv ?_|refine zDy ?_|refine zAx ?_|refine zAv ?_)
  | refine zCv ?_|refine zEy rfl ?_|refine zIx ?_|refine zIv ?_
  | ((first|refine zGx rfl rfl rfl rfl rfl fun K_ hK_=>?_|refine zGy rfl rfl rfl rfl rfl fun K_ hK_=>?_);simp only [zAz,zDz,zFw,↓reduceIte,reduceCtorEq,Nat.reduceEqDiff,Bool.not_true,Bool.not_false];refine hK_ _ ?_;clear hK_ K_)
  | refine zDw (by decide) ?_
  | ((try first|refine zJx rfl rfl rfl ?_|refine zIy rfl rfl ?_|refine zJw rfl rfl rfl ?_|refine zIw rfl rfl ?_);(refine zIz fun Q_ hQ_=>?_;simp (disch:=first|omega|(simp only [List.length_cons,List.length_nil,List.length_append];omega)) only [bb,bp,zKx,↓reduceIte,reduceCtorEq,Nat.reduceEqDiff,Nat.reduceLT,Nat.reduceLeDiff,Nat.reduceAdd,Nat.reduceMul,Nat.reduceSub,Nat.reduceBEq,Int.reduceToNat,cond_true,cond_false,eq_self,beq_self_eq_true,g0,g1,g4,g5,g6,g7,hlen,hix,hld',tEvT21,zHw,zNv,zAw wf];first|(refine zCy (Q:=Q_) (fun hp_=>?_) (fun hp_=>?_) <;> first|(exfalso;omega)|(refine hQ_ _ _ ?_;clear hQ_ Q_))|(refine zBy (Q:=Q_) (fun hp_=>?_) (fun hp_=>?_) <;> first|(exfalso;omega)|(refine hQ_ _ _ ?_;clear hQ_ Q_))|(refine hQ_ _ _ ?_;clear hQ_ Q_)))
  | (refine zFv fun K_ hK_=>?_;simp (disch:=omega) only [zFx,zAz,zGz,↓reduceIte,reduceCtorEq,Nat.reduceEqDiff,Nat.reduceLT];refine hK_ _ ?_;clear hK_ K_)))
        exact zKy (k+1) (by omega) ⟨⟨by omega,hlt⟩,by simp only [zAz,↓reduceIte,reduceCtorEq,Nat.reduceEqDiff];exact g0,by simp only [zAz,↓reduceIte,reduceCtorEq,Nat.reduceEqDiff];exact g1,by simp only [zAz,↓reduceIte,reduceCtorEq,Nat.reduceEqDiff];exact g4,by simp only [zAz,↓reduceIte,reduceCtorEq,Nat.reduceEqDiff];exact g5,by simp only [zAz,↓reduceIte,reduceCtorEq,Nat.reduceEqDiff];rfl,rfl,⟨_,rfl,hw1,hw2⟩,q,by simp only [zAz,↓reduceIte,reduceCtorEq,Nat.reduceEqDiff];exact g6,hq,fun j hj hm=>by
          by_cases e:j=k
          · subst e;rw [List.getElem?_eq_getElem hlt,hb'] at hm;cases hm
          · exact hall j (by omega) hm⟩
    · have hke:k=ms.length:=by omega
      subst hke
      have hs1 : ∀ (o:AO) w,w≤h.clock+2→(om Tryd.prog KK).call (.fn 36 [.sl (nx h 1) 0 2 (some 2) 1]) (X h [o,.cells (zAy [ii lo,ii (p:Int)]) 2] w) = .ok (ii (lo+(p:Int))) (X h [o,.cells (zAy [ii lo,ii (p:Int)]) 2] w):=fun o w hw=>sum2 wf rfl (by simp only [List.length_cons,List.length_nil];omega) (by omega) (by omega)
      have hs2 : ∀ (o o2:AO) w,w≤h.clock+3→(om Tryd.prog KK).call (.fn 36 [.sl (nx h 2) 0 2 (some 2) 1]) (X h [o,o2,.cells (zAy [ii lo,ii (q:Int)]) 2] w) = .ok (ii (lo+(q:Int))) (X h [o,o2,.cells (zAy [ii lo,ii (q:Int)]) 2] w):=fun o o2 w hw=>sum2 wf rfl (by simp only [List.length_cons,List.length_nil];omega) (by omega) (by omega)
      (repeat' (first
  | (with_reducible first|refine zJz ?_|refine zGw ?_|refine zEw ?_|refine zEx ?_|refine zEv ?_|refine zJy ?_|refine zGv ?_|refine zBw ?_|refine zDx ?_|refine zBv ?_|refine zCx ?_|refine zEz ?_|refine zCw ?_|refine zCz ?_|refine zBz ?_|refine zDv ?_|refine zDy ?_|refine zAx ?_|refine zAv ?_)
  | refine zCv ?_|refine zEy rfl ?_|refine zIx ?_|refine zIv ?_
  | ((first|refine zGx rfl rfl rfl rfl rfl fun K_ hK_=>?_|refine zGy rfl rfl rfl rfl rfl fun K_ hK_=>?_);simp only [zAz,zDz,zFw,↓reduceIte,reduceCtorEq,Nat.reduceEqDiff,Bool.not_true,Bool.not_false];refine hK_ _ ?_;clear hK_ K_)
  | refine zDw (by decide) ?_
  | ((try first|refine zJx rfl rfl rfl ?_|refine zIy rfl rfl ?_|refine zJw rfl rfl rfl ?_|refine zIw rfl rfl ?_);(refine zIz fun Q_ hQ_=>?_;simp (disch:=first|omega|(simp only [List.length_cons,List.length_nil,List.length_append];omega)) only [bb,bp,zKx,↓reduceIte,reduceCtorEq,Nat.reduceEqDiff,Nat.reduceLT,Nat.reduceLeDiff,Nat.reduceAdd,Nat.reduceMul,Nat.reduceSub,Nat.reduceBEq,Int.reduceToNat,cond_true,cond_false,eq_self,beq_self_eq_true,g0,g1,g4,g5,g6,g7,hlen,hs1,hs2,zHz wf,zHx wf,zFz wf,zHy wf,zBx wf,zFy,tEvT21,zHw,zNv,zAw wf];first|(refine zCy (Q:=Q_) (fun hp_=>?_) (fun hp_=>?_) <;> first|(exfalso;omega)|(refine hQ_ _ _ ?_;clear hQ_ Q_))|(refine zBy (Q:=Q_) (fun hp_=>?_) (fun hp_=>?_) <;> first|(exfalso;omega)|(refine hQ_ _ _ ?_;clear hQ_ Q_))|(refine hQ_ _ _ ?_;clear hQ_ Q_)))
  | (refine zFv fun K_ hK_=>?_;simp (disch:=omega) only [zFx,zAz,zGz,↓reduceIte,reduceCtorEq,Nat.reduceEqDiff,Nat.reduceLT];refine hK_ _ ?_;clear hK_ K_)))
      refine zJv _ _ rfl (retc0 (by decide) (by simp (disch:=first|omega|(simp only [List.length_cons,List.length_nil,List.length_append];omega)) only [bb,bp,zKx,↓reduceIte,reduceCtorEq,Nat.reduceEqDiff,Nat.reduceLT,Nat.reduceLeDiff,Nat.reduceAdd,Nat.reduceMul,Nat.reduceSub,Nat.reduceBEq,Int.reduceToNat,cond_true,cond_false,eq_self,beq_self_eq_true,g4,zFz wf,tEvT21,zHw,zNv,zAw wf];rfl)) ?_
      refine zMw rfl (by omega) ?_
      exact ⟨q,hq,fun j hj=>hall j (zHv hj) hj,rfl,rfl⟩
  obtain ⟨r,h',e,q,hq,hall,rfl,rfl⟩:=main
  exact ⟨p,q,hp,hq,fun j hj=>⟨hfirst j hj,hall j hj⟩,e⟩
theorem eqnil22 {x y:Operand} {id:Pos} {off len esz:Nat} {c:Option Nat} : binE Tryd.prog .eql 22 x y (.sl id off len c esz) .nils=some (.bool false):=by
  have e:binE Tryd.prog .eql 22 x y (.sl id off len c esz) .nils=nilCmp .eql (nilEqE Tryd.prog 22 (.sl id off len c esz) .nils):=rfl
  rw [e]
  unfold nilEqE
  rw [yWv]
  rfl
theorem clone (sp:List (Int × Int)) (hn:1≤sp.length∧sp.length≤1000) (a:AV) (hca:Cape 2 a) (h:H) (wf:Wf h) (hs:Sl h a 2 sp.length (zLy sp)) :
    (om Tryd.prog KK).call (.fn 54 [a]) h = .ok (.sl (nx h 1) 0 sp.length none 2) (X h [.cells (zAy []) 51,.cells (zAy (zLy sp)) 51] h.w):=by
  have hsrc : ∀ l w,srcCells (X h l w) 2 (reszT Tryd.prog 22 a)=some (sp.length,zLy sp):=fun l w=>(hs.up wf l w).srcE (P:=Tryd.prog) hca yWv zRx
  have hnil : ∀ x y,binE Tryd.prog .eql 22 x y a .nils=some (.bool false):=fun x y=>by
    obtain ⟨_,⟨_,h0⟩|⟨_,_,_,_,_,_,rfl,_⟩⟩:=hs
    · exfalso;omega
    · exact eqnil22
  have ha1:oneB a=true∧AV.cells a=[a]:=by obtain ⟨_,⟨rfl,_⟩|⟨_,_,_,_,_,_,rfl,_⟩⟩:=hs <;> exact ⟨rfl,rfl⟩
  have rs22 : ∀ (id:Pos) (off len c esz:Nat),reszT Tryd.prog 22 (.sl id off len (some c) esz) = .sl id off len (some c) 2:=fun id off len c esz=>yBy yWv zRx
  have a1 : ∀ w,appendE Tryd.prog 22 (.sl (nx h 0) 0 0 (some 0) 2) (reszT Tryd.prog 22 a) (X h [.cells (zAy []) 51] w) = .ok (.sl (nx h 1) 0 sp.length none 2) (X h [.cells (zAy []) 51,.cells (zAy (zLy sp)) 51] w):=fun w=>
    yNv (P:=Tryd.prog) (l:=[.cells (zAy []) 51]) (k:=0) (w:=w) (t:=22) (old:=[]) (e':=51) wf yWv zRx el_51 (x:=reszT Tryd.prog 22 a) (n:=sp.length) (new:=zLy sp) (by omega) (by omega) (by decide) rfl (hsrc _ _) (zUw sp)
  refine zWv (zKv (fn:=Tryd.f54) Tryd.func54 rfl rfl rfl rfl rfl ?_)
  simp only [zKx]
  (repeat' (first
  | (with_reducible first|refine zJz ?_|refine zGw ?_|refine zEw ?_|refine zEx ?_|refine zEv ?_|refine zJy ?_|refine zGv ?_|refine zBw ?_|refine zDx ?_|refine zBv ?_|refine zCx ?_|refine zEz ?_|refine zCw ?_|refine zCz ?_|refine zBz ?_|refine zDv ?_|refine zDy ?_|refine zAx ?_|refine zAv ?_)
  | refine zCv ?_|refine zEy rfl ?_|refine zIx ?_|refine zIv ?_
  | ((first|refine zGx rfl rfl rfl rfl rfl fun K_ hK_=>?_|refine zGy rfl rfl rfl rfl rfl fun K_ hK_=>?_);simp only [zAz,zDz,zFw,↓reduceIte,reduceCtorEq,Nat.reduceEqDiff,Bool.not_true,Bool.not_false];refine hK_ _ ?_;clear hK_ K_)
  | refine zDw (by decide) ?_
  | ((try first|refine zJx rfl rfl rfl ?_|refine zIy rfl rfl ?_|refine zJw rfl rfl rfl ?_|refine zIw rfl rfl ?_);(refine zIz fun Q_ hQ_=>?_;simp (disch:=first|omega|(simp only [List.length_cons,List.length_nil,List.length_append];omega)) only [bb,bp,zKx,↓reduceIte,reduceCtorEq,Nat.reduceEqDiff,Nat.reduceLT,Nat.reduceLeDiff,Nat.reduceAdd,Nat.reduceMul,Nat.reduceSub,Nat.reduceBEq,Int.reduceToNat,cond_true,cond_false,eq_self,beq_self_eq_true,hnil,a1,rs22,ha1.1,ha1.2,zHz wf,zHx wf,zFz wf,zHy wf,zBx wf,zFy,tEvT21,zHw,zNv,zAw wf];first|(refine zCy (Q:=Q_) (fun hp_=>?_) (fun hp_=>?_) <;> first|(exfalso;omega)|(refine hQ_ _ _ ?_;clear hQ_ Q_))|(refine zBy (Q:=Q_) (fun hp_=>?_) (fun hp_=>?_) <;> first|(exfalso;omega)|(refine hQ_ _ _ ?_;clear hQ_ Q_))|(refine hQ_ _ _ ?_;clear hQ_ Q_)))
  | (refine zFv fun K_ hK_=>?_;simp (disch:=omega) only [zFx,zAz,zGz,↓reduceIte,reduceCtorEq,Nat.reduceEqDiff,Nat.reduceLT];refine hK_ _ ?_;clear hK_ K_)))
  refine zJv _ _ rfl (ret1 (by decide)) ?_
  simp only [zAz,↓reduceIte,reduceCtorEq,Nat.reduceEqDiff]
  refine yCz (by
    show (_ && flat (.sl _ 0 _ none 2))=false
    exact Bool.and_false _) ⟨rfl,?_⟩
  rw [Nat.min_eq_left wf.wle]
theorem clear5 {h:H} (wf:Wf h) {L:List AO} {k w:Nat} {cs:List AV} {c:Option Nat} (hk:L[k]? = some (.cells (zAy cs) 4)) (hl:cs.length=5):clearE Tryd.prog 93 (.sl (nx h k) 0 5 c 1) (X h L w) = .ok (.tup []) (X h (L.set k (.cells (zAy (List.replicate 5 (.bool false))) 4)) (min (h.clock+k) w)):=by
  unfold clearE
  rw [un_93]
  dsimp only
  rw [ze_4]
  show RV.done (writeCells (nx h k) 0 [.bool false,.bool false,.bool false,.bool false,.bool false] (X h L w))=_
  rw [zBx wf,hk,zUx]
  rw [show allOne [AV.bool false,.bool false,.bool false,.bool false,.bool false]=true from rfl]
  dsimp only [cond]
  rw [if_pos (show 0+[AV.bool false,.bool false,.bool false,.bool false,.bool false].length≤cs.length by rw [hl];decide),yFz,List.take_zero,List.drop_of_length_le (by rw [hl];decide)]
  rfl
end Go.Proofs.YtkmdidplmfdikaaDoor
end
