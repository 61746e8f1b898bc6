import Derived.Test.YtmincoafjnnkpaawvM2
import Derived.ProofKit
import Derived.OpenShut
import Derived.Deep.SlicePairs
import Derived.WideKeyArgs
set_option linter.all false
section
namespace Go.Ev

noncomputable section

def eqF (a b:AV):Bool:=match a with
  | .bool x=>(match b with|.bool y=>(bif x then y else !y)|_=>false)
  | .int k m=>(match b with|.int l n=>decide (k=l) && decide (m=n)|_=>false)
  | .nilp=>(match b with|.nilp=>true|_=>false)
  | .nils=>(match b with|.nils=>true|_=>false)
  | .nilm=>(match b with|.nilm=>true|_=>false)
  | .nilf=>(match b with|.nilf=>true|_=>false)
  | .nili=>(match b with|.nili=>true|_=>false)
  | _=>false

theorem eqF_spec {a b:AV} (h:eqF a b=true):a=b∧flat1 a=true:=by
  cases a <;> cases b <;> first
    | (cases h;done)
    | exact ⟨rfl,rfl⟩
    | skip
  · rename_i x y;cases x <;> cases y <;> first|exact ⟨rfl,rfl⟩|cases h
  · rename_i k m l n
    have h':(decide (k=l) && decide (m=n))=true:=h
    rw [Bool.and_eq_true] at h'
    obtain ⟨h1,h2⟩:=h'
    have h1:=of_decide_eq_true h1
    have h2:=of_decide_eq_true h2
    subst h1 h2
    exact ⟨rfl,rfl⟩

def eqFL :List AV→List AV→Bool
  | [],[]=>true
  | a :: as,b :: bs=>eqF a b && eqFL as bs
  | _,_=>false

theorem eqFL_spec : ∀ {as bs:List AV},eqFL as bs=true→as=bs ∧ ∀ a ∈ as,flat1 a=true
  | [],[],_=>⟨rfl,fun _ h=>by cases h⟩
  | a :: as,b :: bs,h=>by
    have h':(eqF a b && eqFL as bs)=true:=h
    rw [Bool.and_eq_true] at h'
    obtain ⟨h1,h2⟩:=eqF_spec h'.1
    obtain ⟨h3,h4⟩:=eqFL_spec h'.2
    subst h1 h3
    exact ⟨rfl,fun x hx=>by rcases List.mem_cons.1 hx with rfl|hx;exact h2;exact h4 x hx⟩
  | [],_ :: _,h=>by cases h
  | _ :: _,[],h=>by cases h

structure Con where
  g:FuncId
  args:List AV
  tb:List (Pos × List AV)
  ret:AV
  news:List (Pos × List AV × TypeId)

def lk (t:Pos):List (Pos × List AV)→Option (List AV)
  | []=>none
  | (k,c) :: r=>bif decide (t=k) then some c else lk t r

def nm (t:Pos):List (Pos × Pos)→Option Pos
  | []=>none
  | (k,a) :: r=>bif decide (t=k) then some a else nm t r

theorem lk_mem {t:Pos} : ∀ {l:List (Pos × List AV)} {c:List AV},lk t l=some c→(t,c) ∈ l
  | [],_,h=>by cases h
  | (k,d) :: r,c,h=>by
    unfold lk at h
    by_cases e:t=k
    · rw [decide_eq_true e] at h;cases h;subst e;exact List.mem_cons_self
    · rw [decide_eq_false e] at h;exact List.mem_cons_of_mem _ (lk_mem h)

def smallObjs (tb:List (Pos × List AV)):T (Nat × AO):=tb.foldr (fun x t=>T.set (0,.ro (M.get (zBz x.2))) x.1 t) (deads 64)
def smallH (tb:List (Pos × List AV)):H:={ objs:=smallObjs tb,next:=posN 128,clock:=1,w:=1 }

theorem xDy {id:Pos} : ∀ (tb:List (Pos × List AV)),T.get id (smallObjs tb)=match lk id tb with|some c=>some (0,.ro (M.get (zBz c)))|none=>T.get id (deads 64)
  | []=>rfl
  | (k,c) :: r=>by
    have e:smallObjs ((k,c) :: r)=T.set (0,.ro (M.get (zBz c))) k (smallObjs r):=rfl
    rw [e]
    unfold lk
    by_cases h:id=k
    · subst h;rw [T.get_set_same,decide_eq_true rfl];rfl
    · rw [T.get_set_ne _ _ _ _ h,decide_eq_false h];exact xDy r

def eqCap (a b:Option Nat):Bool:=match a with
  | none=>match b with|none=>true|some _=>false
  | some x=>match b with|some y=>Nat.beq x y|none=>false

def fit1 (s:List (Pos × Pos)) (t a:AV):Bool:=match t with
  | .sl tid off len cap esz=>(match a with
    | .sl id off2 len2 cap2 esz2=>(match nm tid s with|some id2=>decide (id2=id)|none=>false) && Nat.beq off off2 && Nat.beq len len2 && eqCap cap cap2 && Nat.beq esz esz2
    | _=>false)
  | t=>eqF t a

def fitL (s:List (Pos × Pos)):List AV→List AV→Bool
  | [],[]=>true
  | t :: ts,a :: as=>fit1 s t a && fitL s ts as
  | _,_=>false

def fit (s:List (Pos × Pos)) (t a:AV):Bool:=match t with
  | .agg ts=>(match a with|.agg as=>fitL s ts as|_=>false)
  | t=>fit1 s t a

def fits (s:List (Pos × Pos)):List AV→List AV→Bool
  | [],[]=>true
  | t :: ts,a :: as=>fit s t a && fits s ts as
  | _,_=>false

def pair1 (t a:AV) (s:List (Pos × Pos)):List (Pos × Pos):=match t with
  | .sl tid _ _ _ _=>(match a with|.sl id _ _ _ _=>(tid,id) :: s|_=>s)
  | _=>s
def pairL :List AV→List AV→List (Pos × Pos)
  | t :: ts,a :: as=>pair1 t a (pairL ts as)
  | _,_=>[]
def pairs :List AV→List AV→List (Pos × Pos)
  | t :: ts,a :: as=>(match t with
    | .agg us=>(match a with|.agg vs=>pairL us vs++pairs ts as|_=>[])
    | t=>pair1 t a (pairs ts as))
  | _,_=>[]

def holds1 (h:H) (a:Pos) (c:List AV):Bool:=match getObj a h with
  | some o=>(match cellsOf o with
    | some m=>(match readM m c.length 0 with|some vs=>eqFL vs c|none=>false)
    | none=>false)
  | none=>false

def ren1 (s:List (Pos × Pos)) (v:AV):Option AV:=match v with
  | .sl id off len cap esz=>(match nm id s with|some a=>some (.sl a off len cap esz)|none=>none)
  | v=>bif flat1 v then some v else none
def renL (s:List (Pos × Pos)):List AV→Option (List AV)
  | []=>some []
  | v :: vs=>match ren1 s v with
    | some u=>(match renL s vs with|some us=>some (u :: us)|none=>none)
    | none=>none
def ren (s:List (Pos × Pos)) (v:AV):Option AV:=match v with
  | .tup vs=>(match renL s vs with|some us=>some (.tup us)|none=>none)
  | v=>ren1 s v

def adopt :List (Pos × List AV × TypeId)→H→Option (List (Pos × Pos) × H)
  | [],h=>some ([],h)
  | (t,c,e) :: r,h=>match newObj (.cells (zBz c) e) h with
    | some (id,h1)=>(match adopt r h1 with|some (s,h2)=>some ((t,id) :: s,h2)|none=>none)
    | none=>none

def apartB (tb:List (Pos × List AV)) (s:List (Pos × Pos)):Bool:=tb.all fun x=>tb.all fun y=>decide (x.1=y.1) || !decide (nm x.1 s=nm y.1 s)
def heldB (tb:List (Pos × List AV)) (s:List (Pos × Pos)) (h:H):Bool:=tb.all fun x=>match nm x.1 s with|some a=>holds1 h a x.2|none=>false

def knownB (tb:List (Pos × List AV)) (s:List (Pos × Pos)):Bool:=s.all fun x=>match lk x.1 tb with|some _=>true|none=>false

def names0 (tb:List (Pos × List AV)) (l:List (Pos × Pos)):List (Pos × Pos):=match lk (posN 0) tb with
  | some _=>(posN 0,posN 0) :: l
  | none=>l

def applyCon (c:Con) (args:List AV) (h:H):RV:=
  let s:=names0 c.tb (pairs c.args args)
  bif fits s c.args args && heldB c.tb s h && apartB c.tb s && knownB c.tb s then
    match adopt c.news h with
    | some (n,h')=>(match ren n c.ret with|some v=>.ok v h'|none=>.no)
    | none=>.no
  else .no

def eqV1 (a b:AV):Bool:=match a with
  | .sl id off len cap esz=>(match b with
    | .sl id2 off2 len2 cap2 esz2=>decide (id=id2) && Nat.beq off off2 && Nat.beq len len2 && decide (cap=cap2) && Nat.beq esz esz2
    | _=>false)
  | a=>eqF a b
def eqVL :List AV→List AV→Bool
  | [],[]=>true
  | a :: as,b :: bs=>eqV1 a b && eqVL as bs
  | _,_=>false
def eqV (a b:AV):Bool:=match a with
  | .tup as=>(match b with|.tup bs=>eqVL as bs|_=>false)
  | a=>eqV1 a b

theorem eqV1_spec {a b:AV} (h:eqV1 a b=true):a=b:=by
  cases a with
  | sl id off len cap esz=>
    cases b with
    | sl id2 off2 len2 cap2 esz2=>
      have h':(decide (id=id2) && Nat.beq off off2 && Nat.beq len len2 && decide (cap=cap2) && Nat.beq esz esz2)=true:=h
      simp only [Bool.and_eq_true] at h'
      obtain ⟨⟨⟨⟨h1,h2⟩,h3⟩,h4⟩,h5⟩:=h'
      rw [of_decide_eq_true h1,Nat.eq_of_beq_eq_true h2,Nat.eq_of_beq_eq_true h3,of_decide_eq_true h4,Nat.eq_of_beq_eq_true h5]
    | _=>cases h
  | _=>refine And.left (eqF_spec (b:=b) ?_);exact h
theorem eqVL_spec : ∀ {as bs:List AV},eqVL as bs=true→as=bs
  | [],[],_=>rfl
  | a :: as,b :: bs,h=>by
    have h':(eqV1 a b && eqVL as bs)=true:=h
    rw [Bool.and_eq_true] at h'
    rw [eqV1_spec h'.1,eqVL_spec h'.2]
  | [],_ :: _,h=>by cases h
  | _ :: _,[],h=>by cases h
theorem eqV_spec {a b:AV} (h:eqV a b=true):a=b:=by
  cases a with
  | tup as=>cases b with
    | tup bs=>rw [eqVL_spec (h:eqVL as bs=true)]
    | _=>cases h
  | _=>exact eqV1_spec h

def newB (tb:List (Pos × List AV)) (h':H) (x:Pos × List AV × TypeId):Bool:=match getObj x.1 h' with
  | some o=>(match cellsE o with
    | some (m,e)=>decide (e=x.2.2) && (match readM m.get x.2.1.length 0 with|some vs=>eqFL vs x.2.1|none=>false)
    | none=>false)
  | none=>false

def farB (n:Nat) (p:Pos):Bool:=match n with
  | 0=>true
  | n+1=>!decide (p=posN n) && farB n p

def occ1 (p:Pos) (v:AV):Bool:=match v with
  | .sl id _ _ _ _=>decide (id=p)
  | _=>false
def occL (p:Pos):List AV→Bool
  | []=>false
  | v :: vs=>occ1 p v || occL p vs
def occB (p:Pos) (v:AV):Bool:=match v with
  | .tup vs=>occL p vs
  | v=>occ1 p v

def chk (c:Con) (r:RV):Bool:=match r with
  | .ok v h'=>eqV v c.ret && Nat.ble 1 h'.w && (c.news.all fun x=>newB c.tb h' x && occB x.1 c.ret && (match lk x.1 c.tb with|none=>farB 64 x.1|some _=>false)) && decide (c.news.map (·.1)).Nodup && (c.tb.all fun x=>decide (x.1=posN 0) || farB 64 x.1)
  | .no=>false

end

end Go.Ev
end

section
namespace Go.Ev

theorem nm_mem {t a:Pos} : ∀ {l:List (Pos × Pos)},nm t l=some a→(t,a) ∈ l
  | [],h=>by cases h
  | (k,d) :: r,h=>by
    unfold nm at h
    by_cases e:t=k
    · rw [decide_eq_true e] at h;cases h;subst e;exact List.mem_cons_self
    · rw [decide_eq_false e] at h;exact List.mem_cons_of_mem _ (nm_mem h)

theorem holds1_spec {h:H} {a:Pos} {c:List AV} (e:holds1 h a c=true) : ∃ born o m,T.get a h.objs=some (born,o)∧cellsOf o=some m∧(∀ i v,c[i]? = some v→m i=some v) ∧ ∀ v ∈ c,flat1 v=true:=by
  unfold holds1 at e
  cases h1:getObj a h with
  | none=>rw [h1] at e;cases e
  | some o=>
    rw [h1] at e
    dsimp only at e
    cases h2:cellsOf o with
    | none=>rw [h2] at e;cases e
    | some m=>
      rw [h2] at e
      dsimp only at e
      cases h3:readM m c.length 0 with
      | none=>rw [h3] at e;cases e
      | some vs=>
        rw [h3] at e
        obtain ⟨e1,e2⟩:=eqFL_spec e
        subst e1
        obtain ⟨born,hb⟩:=xNx h1
        refine ⟨born,o,m,hb,h2,fun i v hv=>?_,e2⟩
        have:=(yZz h3).2 i v hv
        rwa [Nat.zero_add] at this

theorem heldB_spec {tb:List (Pos × List AV)} {s:List (Pos × Pos)} {h:H} (e:heldB tb s h=true) {t:Pos} {c:List AV} (hm:(t,c) ∈ tb) : ∃ a,nm t s=some a∧holds1 h a c=true:=by
  unfold heldB at e
  have:=(List.all_eq_true.1 e) (t,c) hm
  dsimp only at this
  cases hn:nm t s with
  | none=>rw [hn] at this;cases this
  | some a=>rw [hn] at this;exact ⟨a,rfl,this⟩

theorem knownB_spec {tb:List (Pos × List AV)} {s:List (Pos × Pos)} (e:knownB tb s=true) {t a:Pos} (hn:nm t s=some a) : ∃ c,lk t tb=some c:=by
  unfold knownB at e
  have:=(List.all_eq_true.1 e) (t,a) (nm_mem hn)
  dsimp only at this
  cases hl:lk t tb with
  | none=>rw [hl] at this;cases this
  | some c=>exact ⟨c,rfl⟩

theorem apartB_spec {tb:List (Pos × List AV)} {s:List (Pos × Pos)} (e:apartB tb s=true) {t u:Pos} {c d:List AV} (h1:(t,c) ∈ tb) (h2:(u,d) ∈ tb) (h:nm t s=nm u s):t=u:=by
  unfold apartB at e
  have:=(List.all_eq_true.1 e) (t,c) h1
  have:=(List.all_eq_true.1 this) (u,d) h2
  dsimp only at this
  rw [decide_eq_true h] at this
  by_cases e:t=u
  · exact e
  · rw [decide_eq_false e] at this;cases this

theorem farB_spec {p:Pos} : ∀ {n:Nat},farB n p=true → ∀ g,g<n→p≠posN g
  | 0,_,g,h=>absurd h (Nat.not_lt_zero g)
  | n+1,e,g,h=>by
    have e':(!decide (p=posN n) && farB n p)=true:=e
    rw [Bool.and_eq_true] at e'
    by_cases hg:g=n
    · subst hg
      intro hp
      rw [decide_eq_true hp] at e'
      cases e'.1
    · exact farB_spec e'.2 g (by omega)

open Classical in
noncomputable def smallR (ρ : R) (tb:List (Pos × List AV)) (s:List (Pos × Pos)):R:=fun id=>match lk id tb with
  | some _=>(match nm id s with|some a=>ρ a|none=>none)
  | none=>if Has (smallH tb) id then some none else none

section
variable {ρ : R} {h:H} {w:World} {tb:List (Pos × List AV)} {s:List (Pos × Pos)}

theorem yYv {id:Pos} {x:Option (Nat × Nat)} (e:smallR ρ tb s id=some x):(∃ c a,lk id tb=some c∧nm id s=some a ∧ ρ a=some x)∨(lk id tb=none∧Has (smallH tb) id∧x=none):=by
  unfold smallR at e
  cases hl:lk id tb with
  | none=>
    rw [hl] at e
    dsimp only at e
    split at e
    · cases e;exact .inr ⟨rfl,‹_›,rfl⟩
    · cases e
  | some c=>
    rw [hl] at e
    dsimp only at e
    cases hn:nm id s with
    | none=>rw [hn] at e;cases e
    | some a=>rw [hn] at e;exact .inl ⟨c,a,rfl,rfl,e⟩

theorem smallR_at {id a:Pos} {c:List AV} (h1:lk id tb=some c) (h2:nm id s=some a):smallR ρ tb s id = ρ a:=by
  unfold smallR;rw [h1];dsimp only;rw [h2]

theorem small_hr (hr:HR ρ h w) (hg:GR ρ) (hh:heldB tb s h=true) (ha:apartB tb s=true) (h0:(∃ c,lk (posN 0) tb=some c)→nm (posN 0) s=some (posN 0)) (hf : ∀ t c,(t,c) ∈ tb→t=posN 0 ∨ ∀ g,g<64→t≠posN g) :
    HR (smallR ρ tb s) (smallH tb) w∧GR (smallR ρ tb s) ∧ ∀ b,¬ Wr (smallR ρ tb s) (smallH tb) b:=by
  have got : ∀ {id c},lk id tb=some c→T.get id (smallH tb).objs=some (0,.ro (M.get (zBz c))):=fun {id c} e=>by
    have:=xDy (id:=id) tb
    rw [e] at this
    exact this
  refine ⟨⟨?_,?_,?_,?_⟩,?_,?_⟩
  · intro id b n hid
    rcases yYv hid with ⟨c,a,h1,h2,h3⟩|⟨_,_,h3⟩
    · obtain ⟨a2,k1,k2⟩:=heldB_spec hh (lk_mem h1)
      rw [h2] at k1
      cases k1
      obtain ⟨born,o,m,g1,g2,g3,g4⟩:=holds1_spec k2
      obtain ⟨born2,o2,o',f1,f2,f3⟩:=hr.live a b n h3
      rw [g1] at f1
      cases f1
      have rows : ∀ c',RowsF ρ m c'→RowsR (smallR ρ tb s) (zBz c) c':=fun c' hc i v hv=>by
        have hv':=xFz hv
        obtain ⟨v',e1,e2⟩:=hc i v (g3 i v hv')
        exact ⟨v',e1,zTz (g4 v (List.mem_of_getElem? hv')) e2⟩
      cases f3 with
      | cells _ e c' hc=>cases g2;exact ⟨0,_,_,got h1,f2,.ro _ e c' (0,0) (rows c' hc)⟩
      | ro _ e c' f hc=>cases g2;exact ⟨0,_,_,got h1,f2,.ro _ e c' f (rows c' hc)⟩
      | _=>cases g2
    · cases h3
  · intro i j b n n' hi hj
    rcases yYv hi with ⟨c,a,h1,h2,h3⟩|⟨_,_,h3⟩
    · rcases yYv hj with ⟨d,a2,k1,k2,k3⟩|⟨_,_,k3⟩
      · have:=hr.inj a a2 b n n' h3 k3
        subst this
        exact apartB_spec ha (lk_mem h1) (lk_mem k1) (h2.trans k2.symm)
      · cases k3
    · cases h3
  · intro id hid
    rcases yYv hid with ⟨c,a,h1,h2,h3⟩|⟨h1,⟨p,hp⟩,_⟩
    · exfalso
      obtain ⟨a2,k1,k2⟩:=heldB_spec hh (lk_mem h1)
      rw [h2] at k1
      cases k1
      obtain ⟨born,o,m,g1,g2,_⟩:=holds1_spec k2
      obtain ⟨born2,f1⟩:=hr.dead a h3
      rw [g1] at f1
      cases f1
      cases g2
    · have:=xDy (id:=id) tb
      rw [h1] at this
      have hp':T.get id (smallObjs tb)=some p:=hp
      rw [this] at hp'
      have:=deads_get 64 id p hp'
      subst this
      exact ⟨0,hp⟩
  · intro id born o hg2
    have hg':T.get id (smallObjs tb)=some (born,o):=hg2
    rw [xDy (id:=id) tb] at hg'
    cases hl:lk id tb with
    | some c=>rw [hl] at hg';cases hg';exact Nat.zero_lt_one
    | none=>
      rw [hl] at hg'
      have:=deads_get 64 id _ hg'
      cases this
      exact Nat.zero_lt_one
  · intro g hg2
    have key : ∀ p:Pos,p.succ≠posN 0:=fun p=>by cases p <;> intro e <;> cases e
    cases hl:lk (posN g) tb with
    | some c=>
      rcases hf _ _ (lk_mem hl) with h1|h1
      · have hg0:g=0:=by
          cases g with
          | zero=>rfl
          | succ g=>exact absurd h1 (key _)
        subst hg0
        obtain ⟨x,hx,hp⟩:=hg 0 (Nat.zero_le _)
        exact ⟨x,by rw [smallR_at hl (h0 ⟨c,hl⟩)];exact hx,hp⟩
      · exact absurd rfl (h1 g (by omega))
    | none=>
      have hh2:Has (smallH tb) (posN g):=by
        have:=xDy (id:=posN g) tb
        rw [hl] at this
        exact ⟨_,Eq.trans this (deads_has 64 g (by omega))⟩
      refine ⟨none,?_,fun b n e=>by cases e⟩
      unfold smallR
      rw [hl]
      dsimp only
      rw [if_pos hh2]
  · rintro b ⟨id,n,hid,hro⟩
    rcases yYv hid with ⟨c,a,h1,_,_⟩|⟨_,_,h3⟩
    · exact hro ⟨0,_,got h1⟩
    · cases h3

theorem eqF_vr {ρs:R} {t a:AV} {v:Value} (e:eqF t a=true) (r:VR ρ a v):VR ρs t v:=by
  obtain ⟨rfl,hfl⟩:=eqF_spec e
  exact zTz hfl r

theorem fit1_spec {ρs:R} (hk : ∀ t a,nm t s=some a → ρs t = ρ a) {t a:AV} {v:Value} (e:fit1 s t a=true) (r:VR ρ a v):VR ρs t v:=by
  cases t with
  | sl tid off len cap esz=>
    cases a with
    | sl id off2 len2 cap2 esz2=>
      have e':((match nm tid s with|some id2=>decide (id2=id)|none=>false) && Nat.beq off off2 && Nat.beq len len2 && eqCap cap cap2 && Nat.beq esz esz2)=true:=e
      simp only [Bool.and_eq_true] at e'
      obtain ⟨⟨⟨⟨e1,e2⟩,e3⟩,e4⟩,e5⟩:=e'
      have e2:=Nat.eq_of_beq_eq_true e2
      have e3:=Nat.eq_of_beq_eq_true e3
      have e5:=Nat.eq_of_beq_eq_true e5
      subst e2 e3 e5
      cases hn:nm tid s with
      | none=>rw [hn] at e1;cases e1
      | some id2=>
        rw [hn] at e1
        have:=of_decide_eq_true e1
        subst this
        cases r with
        | sl _ _ _ _ _ b cap' x hx hp hc hl=>
          refine .sl tid off len cap esz b cap' x ((hk _ _ hn).trans hx) (fun c n e=>⟨(hp c n e).1,fun hcn=>(hp c n e).2 (by subst hcn;cases cap2 with|none=>rfl|some _=>cases e4)⟩) (fun c hcc=>?_) hl
          subst hcc
          cases cap2 with
          | none=>cases e4
          | some y=>
            have:c=y:=Nat.eq_of_beq_eq_true e4
            subst this
            exact hc _ rfl
        | slu _ _ _ c0 a0 x0 hx h0=>
          cases cap with
          | none=>exact .slu tid off esz c0 a0 x0 ((hk _ _ hn).trans hx) h0
          | some c=>cases e4
        | sle _ _ _ a0 hx=>
          cases cap with
          | none=>cases e4
          | some c=>
            have:c=0:=Nat.eq_of_beq_eq_true e4
            subst this
            exact .sle tid off esz a0 ((hk _ _ hn).trans hx)
    | _=>cases e
  | _=>refine eqF_vr (a:=a) ?_ r;exact e

theorem fitL_spec {ρs:R} (hk : ∀ t a,nm t s=some a → ρs t = ρ a) : ∀ {ts as:List AV} {vs:List Value},fitL s ts as=true→VL ρ as vs→VL ρs ts vs
  | [],[],_,_,r=>by cases r;exact .nil
  | t :: ts,a :: as,_,e,r=>by
    have e':(fit1 s t a && fitL s ts as)=true:=e
    rw [Bool.and_eq_true] at e'
    cases r with
    | cons _ _ v vs hv hvs=>exact .cons _ _ _ _ (fit1_spec hk e'.1 hv) (fitL_spec hk e'.2 hvs)
  | [],_ :: _,_,e,_=>by cases e
  | _ :: _,[],_,e,_=>by cases e

theorem fit_spec {ρs:R} (hk : ∀ t a,nm t s=some a → ρs t = ρ a) {t a:AV} {v:Value} (e:fit s t a=true) (r:VR ρ a v):VR ρs t v:=by
  cases t with
  | agg ts=>cases a with
    | agg as=>cases r with
      | agg _ cs' hc=>exact .agg ts cs' (fitL_spec hk e hc)
    | _=>cases e
  | _=>refine fit1_spec hk ?_ r;exact e

theorem fits_spec {ρs:R} (hk : ∀ t a,nm t s=some a → ρs t = ρ a) : ∀ {ts as:List AV} {vs:List Value},fits s ts as=true→VL ρ as vs→VL ρs ts vs
  | [],[],_,_,r=>by cases r;exact .nil
  | t :: ts,a :: as,_,e,r=>by
    have e':(fit s t a && fits s ts as)=true:=e
    rw [Bool.and_eq_true] at e'
    cases r with
    | cons _ _ v vs hv hvs=>exact .cons _ _ _ _ (fit_spec hk e'.1 hv) (fits_spec hk e'.2 hvs)
  | [],_ :: _,_,e,_=>by cases e
  | _ :: _,[],_,e,_=>by cases e

theorem ren1_spec {ρs ρ':R} (hk : ∀ t a,nm t s=some a → ρ' a = ρs t) {v u:AV} {v':Value} (e:ren1 s v=some u) (r:VR ρs v v'):VR ρ' u v':=by
  cases v with
  | sl id off len cap esz=>
    have e':(match nm id s with|some a=>some (AV.sl a off len cap esz)|none=>none)=some u:=e
    cases hn:nm id s with
    | none=>rw [hn] at e';cases e'
    | some a=>
      rw [hn] at e'
      cases e'
      cases r with
      | sl _ _ _ _ _ b cap' x hx hp hc hl=>exact .sl a off len cap esz b cap' x ((hk _ _ hn).trans hx) hp hc hl
      | sle _ _ _ a0 hx=>exact .sle a off esz a0 ((hk _ _ hn).trans hx)
      | slu _ _ _ c0 a0 x0 hx h0=>exact .slu a off esz c0 a0 x0 ((hk _ _ hn).trans hx) h0
  | bool b=>cases e;exact zTz rfl r
  | int k n=>cases e;exact zTz rfl r
  | str b=>cases e;exact zTz rfl r
  | nilp=>cases e;exact zTz rfl r
  | nils=>cases e;exact zTz rfl r
  | nilm=>cases e;exact zTz rfl r
  | nilf=>cases e;exact zTz rfl r
  | nili=>cases e;exact zTz rfl r
  | _=>cases e

theorem renL_spec {ρs ρ':R} (hk : ∀ t a,nm t s=some a → ρ' a = ρs t) : ∀ {vs us:List AV} {vs':List Value},renL s vs=some us→VL ρs vs vs'→VL ρ' us vs'
  | [],us,_,e,r=>by cases e;cases r;exact .nil
  | v :: vs,us,_,e,r=>by
    unfold renL at e
    cases h1:ren1 s v with
    | none=>rw [h1] at e;cases e
    | some u=>
      rw [h1] at e
      dsimp only at e
      cases h2:renL s vs with
      | none=>rw [h2] at e;cases e
      | some us2=>
        rw [h2] at e
        cases e
        cases r with
        | cons _ _ v' vs' hv hvs=>exact .cons _ _ _ _ (ren1_spec hk h1 hv) (renL_spec hk h2 hvs)

theorem ren_spec {ρs ρ':R} (hk : ∀ t a,nm t s=some a → ρ' a = ρs t) {v u:AV} {v':Value} (e:ren s v=some u) (r:VR ρs v v'):VR ρ' u v':=by
  cases v with
  | tup vs=>
    have e':(match renL s vs with|some us=>some (AV.tup us)|none=>none)=some u:=e
    cases h1:renL s vs with
    | none=>rw [h1] at e';cases e'
    | some us=>
      rw [h1] at e'
      cases e'
      cases r with
      | tup _ cs' hc=>exact .tup us cs' (renL_spec hk h1 hc)
  | _=>exact ren1_spec hk (by exact e) r

end

end Go.Ev
end

section
namespace Go.Ev

theorem HR.take {ρ : R} {h h':H} {w:World} (hr:HR ρ h w) {o:AO} {id:Pos} (e:Ev.newObj o h=some (id,h')) {o':Obj} {b n:Nat} (hb:w.heap[b]? = some o') (ho:OR ρ n o o') (hno : ∀ j k,ρ j≠some (some (b,k))) :
    ρ id=none∧HR (ρ.new id (some (b,n))) h' w:=by
  obtain ⟨rfl,hg,rfl⟩:=yUz e
  have hn:=hr.fresh hg
  have hle:R.le ρ (ρ.new h.next (some (b,n))):=R.le_new hn
  refine ⟨hn,?_,?_,?_,?_⟩
  · intro j c k hj
    unfold R.new at hj
    by_cases ej:j=h.next
    · subst ej
      rw [if_pos rfl] at hj
      cases hj
      exact ⟨h.clock,o,o',T.get_set_same _ _ _,hb,ho.up hle⟩
    · rw [if_neg ej] at hj
      obtain ⟨born,p,p',h1,h2,h3⟩:=hr.live j c k hj
      exact ⟨born,p,p',(T.get_set_ne _ _ _ _ ej).trans h1,h2,h3.up hle⟩
  · intro i j c k k' hi hj
    unfold R.new at hi hj
    by_cases ei:i=h.next
    · by_cases ej:j=h.next
      · rw [ei,ej]
      · rw [if_pos ei] at hi;rw [if_neg ej] at hj;cases hi
        exact absurd hj (hno _ _)
    · by_cases ej:j=h.next
      · rw [if_neg ei] at hi;rw [if_pos ej] at hj;cases hj
        exact absurd hi (hno _ _)
      · rw [if_neg ei] at hi;rw [if_neg ej] at hj
        exact hr.inj i j c k k' hi hj
  · intro j hj
    unfold R.new at hj
    by_cases ej:j=h.next
    · rw [if_pos ej] at hj;cases hj
    · rw [if_neg ej] at hj
      obtain ⟨born,hb⟩:=hr.dead j hj
      exact ⟨born,(T.get_set_ne _ _ _ _ ej).trans hb⟩
  · intro j born p hj
    show born<Nat.succ h.clock
    by_cases ej:j=h.next
    · subst ej;rw [T.get_set_same] at hj;cases hj;exact Nat.lt_succ_self _
    · rw [T.get_set_ne _ _ _ _ ej] at hj;exact Nat.lt_succ_of_lt (hr.old j born p hj)

theorem Ext.take {ρ0 ρ : R} {h0 h h':H} {w0 w:World} (ex:Ext ρ0 h0 w0 ρ h w) (hr:HR ρ h w) {o:AO} {id:Pos} (e:Ev.newObj o h=some (id,h')) {b n:Nat} (hb:w0.heap.size≤b):Ext ρ0 h0 w0 (ρ.new id (some (b,n))) h' w:=by
  have hnone : ρ id=none:=by obtain ⟨rfl,hg,rfl⟩:=yUz e;exact hr.fresh hg
  obtain ⟨rfl,hg,rfl⟩:=yUz e
  refine { le:=R.le_trans ex.le (R.le_new hnone),newd:=?_,rng:=?_,wr:=?_,frame:=ex.frame,size:=ex.size,frz:=ex.frz,os:=ex.os,out:=ex.out,clk:=Nat.le_succ_of_le ex.clk,keep:=?_,wle:=ex.wle }
  · intro j hj
    rcases ex.newd j hj with h1|h1
    · by_cases ej:j=h.next
      · subst ej
        refine .inr ?_
        cases hg0:T.get h.next h0.objs with
        | none=>rfl
        | some p=>
          obtain ⟨⟨o',ho⟩,_⟩:=ex.keep _ p.1 p.2 hg0
          rw [hg] at ho;cases ho
      · exact .inl (by unfold R.new;rw [if_neg ej];exact h1)
    · exact .inr h1
  · intro j c k hj
    unfold R.new at hj
    by_cases ej:j=h.next
    · rw [if_pos ej] at hj;cases hj;exact .inl hb
    · rw [if_neg ej] at hj;exact ex.rng j c k hj
  · rintro c hc ⟨j,k,hj,hro⟩
    unfold R.new at hj
    by_cases ej:j=h.next
    · rw [if_pos ej] at hj;cases hj;omega
    · rw [if_neg ej] at hj
      exact ex.wr c hc ⟨j,k,hj,fun ⟨born,m,hm⟩=>hro ⟨born,m,(T.get_set_ne _ _ _ _ ej).trans hm⟩⟩
  · intro j born p hj
    obtain ⟨⟨o',ho⟩,hk⟩:=ex.keep j born p hj
    have hne:j≠h.next:=fun e=>by rw [e,hg] at ho;cases ho
    exact ⟨⟨o',(T.get_set_ne _ _ _ _ hne).trans ho⟩,fun hb=>(T.get_set_ne _ _ _ _ hne).trans (hk hb)⟩

def NewOK (ρs:R) (w0 w:World) (ρ : R) (x:Pos × List AV × TypeId):Prop:=
  ∃ (b:Nat) (c:Array Value),ρs x.1=some (some (b,c.size))∧w0.heap.size≤b∧w.heap[b]? = some (.cells c x.2.2 (0,0))∧(∀ (i:Nat) v,x.2.1[i]? = some v→flat1 v=true ∧ ∃ v',c[i]? = some v'∧VR ρs v v') ∧ ∀ j k,ρ j≠some (some (b,k))

theorem adopt_spec {ρ0 ρs:R} {h0:H} {w0 w:World} (inj : ∀ id id' b n n',ρs id=some (some (b,n)) → ρs id'=some (some (b,n'))→id=id') : ∀ (news:List (Pos × List AV × TypeId)) (h:H) (ρ : R) (s:List (Pos × Pos)) (h2:H),adopt news h=some (s,h2) →
    HR ρ h w→Ext ρ0 h0 w0 ρ h w→(∀ x ∈ news,NewOK ρs w0 w ρ x)→(news.map (·.1)).Nodup → ∃ ρ2,HR ρ2 h2 w∧Ext ρ0 h0 w0 ρ2 h2 w∧(∀ id x,ρ id=some x → ρ2 id=some x) ∧ ∀ t a,nm t s=some a → ρ2 a = ρs t
  | [],h,ρ,s,h2,e,hr,ex,_,_=>by cases e;exact ⟨ρ,hr,ex,fun _ _ h=>h,fun t a h=>by cases h⟩
  | (t,c,ty) :: r,h,ρ,s,h2,e,hr,ex,hn,hd=>by
    unfold adopt at e
    cases h1:newObj (.cells (zBz c) ty) h with
    | none=>rw [h1] at e;cases e
    | some p=>
      obtain ⟨id,hh⟩:=p
      rw [h1] at e
      dsimp only at e
      cases h3:adopt r hh with
      | none=>rw [h3] at e;cases e
      | some q=>
        obtain ⟨s2,h4⟩:=q
        rw [h3] at e
        cases e
        obtain ⟨b,cc,k1,k2,k3,k4,k5⟩:=hn (t,c,ty) List.mem_cons_self
        have ho:OR ρ cc.size (.cells (zBz c) ty) (.cells cc ty (0,0)):=.cells _ _ _ fun i v hv=>by
          obtain ⟨g1,v',g2,g3⟩:=k4 i v (xFz hv)
          exact ⟨v',g2,zTz g1 g3⟩
        obtain ⟨hnone,hr1⟩:=hr.take h1 k3 ho k5
        have ex1:=ex.take (n:=cc.size) hr h1 k2
        rw [List.map_cons,List.nodup_cons] at hd
        obtain ⟨ρ2,f1,f2,f3,f4⟩:=adopt_spec inj r hh _ s2 h2 h3 hr1 ex1 (fun x hx=>by
          obtain ⟨b2,c2,m1,m2,m3,m4,m5⟩:=hn x (List.mem_cons_of_mem _ hx)
          refine ⟨b2,c2,m1,m2,m3,m4,fun j k hj=>?_⟩
          unfold R.new at hj
          by_cases ej:j=id
          · rw [if_pos ej] at hj
            cases hj
            have:=inj _ _ _ _ _ m1 k1
            exact hd.1 (this ▸ List.mem_map_of_mem hx)
          · rw [if_neg ej] at hj;exact m5 j k hj) hd.2
        refine ⟨ρ2,f1,f2,fun j x hj=>f3 j x ?_,fun u a hu=>?_⟩
        · have:j≠id:=fun e=>by rw [e,hnone] at hj;cases hj
          unfold R.new;rw [if_neg this];exact hj
        · unfold nm at hu
          by_cases eu:u=t
          · rw [decide_eq_true eu] at hu
            cases hu
            subst eu
            rw [f3 id _ (by unfold R.new;rw [if_pos rfl]),k1]
          · rw [decide_eq_false eu] at hu;exact f4 u a hu

theorem deads_none : ∀ (n:Nat) (id:Pos),(∀ g,g<n→id≠posN g)→T.get id (deads n)=none
  | 0,id,_=>T.get_nil id
  | n+1,id,h=>by
    have e:deads (n+1)=T.set (0,.dead) (posN n) (deads n):=rfl
    rw [e,T.get_set_ne _ _ _ _ (h n (Nat.lt_succ_self n))]
    exact deads_none n id (fun g hg=>h g (by omega))

theorem occ1_spec {ρ : R} {p:Pos} {v:AV} {v':Value} (e:occ1 p v=true) (r:VR ρ v v') : ∃ x,ρ p=some x:=by
  cases v with
  | sl id off len cap esz=>
    have:=of_decide_eq_true (e:decide (id=p)=true)
    subst this
    cases r with
    | sl _ _ _ _ _ b cap' x hx hp hc hl=>exact ⟨x,hx⟩
    | sle _ _ _ a0 hx=>exact ⟨_,hx⟩
    | slu _ _ _ c0 a0 x0 hx h0=>exact ⟨x0,hx⟩
  | _=>cases e
theorem occL_spec {ρ : R} {p:Pos} : ∀ {vs:List AV} {vs':List Value},occL p vs=true→VL ρ vs vs' → ∃ x,ρ p=some x
  | [],_,e,_=>by cases e
  | v :: vs,_,e,r=>by
    have e':(occ1 p v || occL p vs)=true:=e
    cases r with
    | cons _ _ _ _ hv hvs=>
      rcases Bool.or_eq_true_iff.1 e' with h|h
      · exact occ1_spec h hv
      · exact occL_spec h hvs
theorem occB_spec {ρ : R} {p:Pos} {v:AV} {v':Value} (e:occB p v=true) (r:VR ρ v v') : ∃ x,ρ p=some x:=by
  cases v with
  | tup vs=>cases r with
    | tup _ cs' hc=>exact occL_spec e hc
  | _=>exact occ1_spec (by exact e) r

def ConOK (P:Program) (c:Con):Prop:=∀ args h u h2,applyCon c args h = .ok u h2→TgtOK P (.fn c.g args) h u h2

theorem con_ok {P:Program} {c:Con} {v0:AV} {hs:H} (hrun:TgtOK P (.fn c.g c.args) (smallH c.tb) v0 hs) (hchk:chk c (.ok v0 hs)=true):ConOK P c:=by
  intro args h u h2 he
  have hchk':(eqV v0 c.ret && Nat.ble 1 hs.w && (c.news.all fun x=>newB c.tb hs x && occB x.1 c.ret && (match lk x.1 c.tb with|none=>farB 64 x.1|some _=>false)) && decide (c.news.map (·.1)).Nodup && (c.tb.all fun x=>decide (x.1=posN 0) || farB 64 x.1))=true:=hchk
  simp only [Bool.and_eq_true] at hchk'
  obtain ⟨⟨⟨⟨c1,c2⟩,c3⟩,c4⟩,c5⟩:=hchk'
  have hret:=eqV_spec c1
  subst hret
  have hq:(smallH c.tb).clock≤hs.w:=Nat.le_of_ble_eq_true c2
  have hnd:=of_decide_eq_true c4
  unfold applyCon at he
  dsimp only at he
  generalize hsd:names0 c.tb (pairs c.args args)=s at he
  have h0:(∃ x,lk (posN 0) c.tb=some x)→nm (posN 0) s=some (posN 0):=by
    rintro ⟨x,hx⟩
    unfold names0 at hsd
    rw [hx] at hsd
    dsimp only at hsd
    rw [← hsd];unfold nm;rw [decide_eq_true rfl];rfl
  cases hcond:(fits s c.args args && heldB c.tb s h && apartB c.tb s && knownB c.tb s) with
  | false=>rw [hcond] at he;cases he
  | true=>
    rw [hcond] at he
    dsimp only [cond] at he
    simp only [Bool.and_eq_true] at hcond
    obtain ⟨⟨⟨b1,b2⟩,b3⟩,b4⟩:=hcond
    cases had:adopt c.news h with
    | none=>rw [had] at he;cases he
    | some p=>
      obtain ⟨n,h'⟩:=p
      rw [had] at he
      dsimp only at he
      cases hren:ren n c.ret with
      | none=>rw [hren] at he;cases he
      | some v=>
        rw [hren] at he
        cases he
        intro ρ args' w hg hr ha frames
        obtain ⟨r1,r2,r3⟩:=small_hr (tb:=c.tb) (s:=s) hr hg b2 b3 h0 (fun t cc ht=>by
          have:=(List.all_eq_true.1 c5) (t,cc) ht
          dsimp only at this
          rcases Bool.or_eq_true_iff.1 this with h1|h1
          · exact .inl (of_decide_eq_true h1)
          · exact .inr (farB_spec h1))
        have hk : ∀ t a,nm t s=some a→smallR ρ c.tb s t = ρ a:=fun t a hn=>by
          obtain ⟨cc,hcc⟩:=knownB_spec b4 hn
          exact smallR_at hcc hn
        obtain ⟨ρs,v',w',fr,a1,a2,a3,a4,a5,a6⟩:=hrun (smallR ρ c.tb s) args' w r2 r1 (fits_spec hk b1 ha) frames
        have same : ∀ b,b<w.heap.size→w'.heap[b]? = w.heap[b]?:=fun b hb=>a3.frame b hb (r3 b)
        have hlt : ∀ id b n,ρ id=some (some (b,n))→b<w.heap.size:=fun id b n e=>by
          obtain ⟨_,_,o',_,hb,_⟩:=hr.live id b n e
          exact (Array.getElem?_eq_some_iff.1 hb).1
        have hlive : ∀ id b n,ρ id=some (some (b,n)) → ∃ born o o',T.get id h.objs=some (born,o)∧w'.heap[b]? = some o'∧OR ρ n o o':=fun id b n e=>by
          obtain ⟨born,o,o',g1,g2,g3⟩:=hr.live id b n e
          exact ⟨born,o,o',g1,(same b (hlt id b n e)).trans g2,g3⟩
        have hr':HR ρ h w':=⟨hlive,hr.inj,hr.dead,hr.old⟩
        have ex':Ext ρ h w ρ h w':={ Ext.refl (ρ:=ρ) (h:=h) (w:=w) with frame:=fun b hb _=>same b hb,size:=a3.size,frz:=a3.frz,os:=a3.os,out:=a3.out }
        have f1:=xTz r1 a2 a3 hq
        have hnew : ∀ x ∈ c.news,NewOK ρs w w' ρ x:=by
          intro x hx
          obtain ⟨t,cc,ty⟩:=x
          have:=(List.all_eq_true.1 c3) (t,cc,ty) hx
          simp only [Bool.and_eq_true] at this
          obtain ⟨⟨n1,n2⟩,n3⟩:=this
          cases hlk:lk t c.tb with
          | some _=>rw [hlk] at n3;cases n3
          | none=>
            rw [hlk] at n3
            dsimp only at n3
            have hnohas:T.get t (smallH c.tb).objs=none:=by
              have h1:=xDy (id:=t) c.tb
              rw [hlk] at h1
              exact Eq.trans h1 (deads_none 64 t (farB_spec n3))
            obtain ⟨y,hy⟩:=occB_spec n2 a1
            unfold newB at n1
            dsimp only at n1
            cases hgo:getObj t hs with
            | none=>rw [hgo] at n1;cases n1
            | some o=>
              rw [hgo] at n1
              dsimp only at n1
              cases hce:cellsE o with
              | none=>rw [hce] at n1;cases n1
              | some me=>
                obtain ⟨m,e⟩:=me
                rw [hce] at n1
                dsimp only at n1
                rw [Bool.and_eq_true] at n1
                obtain ⟨e1,e2⟩:=n1
                have e1:=of_decide_eq_true e1
                subst e1
                obtain rfl:=cellsE_some hce
                obtain ⟨born,hb⟩:=xNx hgo
                cases hrm:readM m.get cc.length 0 with
                | none=>rw [hrm] at e2;cases e2
                | some vs=>
                  rw [hrm] at e2
                  obtain ⟨e3,e4⟩:=eqFL_spec e2
                  subst e3
                  cases y with
                  | none=>
                    obtain ⟨_,hd⟩:=a2.dead t hy
                    rw [hb] at hd;cases hd
                  | some bn=>
                    obtain ⟨b,k⟩:=bn
                    obtain ⟨born2,o2,o',l1,l2,l3⟩:=a2.live t b k hy
                    rw [hb] at l1
                    cases l1
                    cases l3 with
                    | cells _ _ c' hc'=>
                      have hsz:w.heap.size≤b:=by
                        rcases a3.rng t b _ hy with q1|⟨id0,n0,q1⟩
                        · exact q1
                        · have q2:=a2.inj id0 t b _ _ (f1 _ _ q1) hy
                          subst q2
                          obtain ⟨pp,hpp⟩:=r1.has q1
                          rw [hnohas] at hpp;cases hpp
                      refine ⟨b,c',hy,hsz,l2,fun i v hv=>?_,fun j k hj=>?_⟩
                      · refine ⟨e4 v (List.mem_of_getElem? hv),?_⟩
                        have:=(yZz hrm).2 i v hv
                        rw [Nat.zero_add] at this
                        exact hc' i v this
                      · have:=hlt j b k hj
                        omega
        obtain ⟨ρ2,g1,g2,g3,g4⟩:=adopt_spec (fun id id' b n n'=>a2.inj id id' b n n') c.news h ρ n h2 had hr' ex' hnew hnd
        exact ⟨ρ2,v',w',fr,ren_spec g4 hren a1,g1,g2,a4,a5,a6⟩

noncomputable def tryCons (e:Tgt→H→RV) (g:FuncId) (args:List AV) (h:H):List Con→RV
  | []=>e (.fn g args) h
  | c :: r=>bif Nat.beq c.g g then (match applyCon c args h with|.ok v h'=>.ok v h'|.no=>tryCons e g args h r) else tryCons e g args h r

noncomputable def withCons (cons:List Con) (e:Evs):Evs:=⟨e.code,fun t h=>match t with|.fn g args=>tryCons e.call g args h cons|.yld id args=>e.call (.yld id args) h⟩

noncomputable def evc (P:Program) (cons:List Con) (n:Nat):Evs:=Nat.rec ⟨fun _ _ _=>.no,fun _ _=>.no⟩ (fun _ e=>⟨codeE P (withCons cons e),tgtE P (withCons cons e)⟩) n

theorem tryCons_ok {P:Program} {e:Tgt→H→RV} (he : ∀ t h v h',e t h = .ok v h'→TgtOK P t h v h') {g:FuncId} {args:List AV} {h:H} : ∀ (cons:List Con),(∀ c ∈ cons,ConOK P c) → ∀ {v h'},tryCons e g args h cons = .ok v h'→TgtOK P (.fn g args) h v h'
  | [],_,v,h',hr=>he _ _ _ _ hr
  | c :: r,hc,v,h',hr=>by
    have rest:=tryCons_ok he (g:=g) (args:=args) (h:=h) r (fun c hm=>hc c (List.mem_cons_of_mem _ hm)) (v:=v) (h':=h')
    unfold tryCons at hr
    cases hb:Nat.beq c.g g with
    | false=>rw [hb] at hr;exact rest hr
    | true=>
      rw [hb] at hr
      have hgg:c.g=g:=Nat.eq_of_beq_eq_true hb
      dsimp only [cond] at hr
      cases ha:applyCon c args h with
      | no=>rw [ha] at hr;exact rest hr
      | ok u h2=>
        rw [ha] at hr
        cases hr
        have:=hc c List.mem_cons_self args h _ _ ha
        rw [hgg] at this
        exact this

theorem withCons_ok {P:Program} {cons:List Con} {e:Evs} (hi:CallOK P e) (hc : ∀ c ∈ cons,ConOK P c):CallOK P (withCons cons e):=by
  intro t h v h' he
  cases t with
  | fn g args=>exact tryCons_ok (e:=e.call) hi cons hc he
  | yld id args=>exact hi _ _ _ _ he

theorem evc_ok {P:Program} (hm:P.follows .mixedOrders=true) {cons:List Con} (hc : ∀ c ∈ cons,ConOK P c) : ∀ n,CodeOK P (evc P cons n)∧CallOK P (evc P cons n)
  | 0=>⟨(fun _ _ _ _ _ _ e=>by cases e),(fun _ _ _ _ e=>by cases e)⟩
  | n+1=>by
    have hcode:CodeOK P (withCons cons (evc P cons n)):=(evc_ok hm hc n).1
    have hcall:=withCons_ok (evc_ok hm hc n).2 hc
    exact ⟨codeE_run hm hcode hcall,tgtE_run hcode⟩

theorem con_run {P:Program} (hm:P.follows .mixedOrders=true) {cons:List Con} (hc : ∀ c ∈ cons,ConOK P c) {n:Nat} {c:Con} (h:chk c ((evc P cons n).call (.fn c.g c.args) (smallH c.tb))=true):ConOK P c:=by
  cases hr:(evc P cons n).call (.fn c.g c.args) (smallH c.tb) with
  | no=>rw [hr] at h;cases h
  | ok v h'=>rw [hr] at h;exact con_ok ((evc_ok hm hc n).2 _ _ _ _ hr) h

end Go.Ev
end

section
namespace Go.Ev

def Evt (p:Nat→Prop):Prop:=∃ n,∀ m,n≤m→p m
theorem Evt.of {p:Nat→Prop} (h : ∀ n,p n):Evt p:=⟨0,fun m _=>h m⟩
theorem Evt.and {p q:Nat→Prop} (a:Evt p) (b:Evt q):Evt fun n=>p n∧q n:=
  let ⟨n,hn⟩:=a;let ⟨m,hm⟩:=b;⟨max n m,fun k hk=>⟨hn k (by omega),hm k (by omega)⟩⟩
theorem Evt.mono {p q:Nat→Prop} (h : ∀ n,p n→q n) (a:Evt p):Evt q:=let ⟨n,hn⟩:=a;⟨n,fun m hm=>h m (hn m hm)⟩
theorem Evt.some {p:Nat→Prop} (a:Evt p) : ∃ n,p n:=let ⟨n,hn⟩:=a;⟨n,hn n (Nat.le_refl n)⟩

noncomputable def EE (P:Program) (K:List Con) (n:Nat):Evs:=withCons K (evc P K n)
def noK (K:List Con) (g:FuncId):Bool:=K.all fun c=>!Nat.beq c.g g
theorem tryCons_no {e:Tgt→H→RV} {g:FuncId} {args:List AV} {h:H} : ∀ {K:List Con},noK K g=true→tryCons e g args h K=e (.fn g args) h
  | [],_=>rfl
  | c :: r,hk=>by
    have hk':(!Nat.beq c.g g && noK r g)=true:=hk
    rw [Bool.and_eq_true] at hk'
    have hb:Nat.beq c.g g=false:=by cases hx:Nat.beq c.g g with|false=>rfl|true=>rw [hx] at hk';exact absurd hk'.1 (by decide)
    unfold tryCons
    rw [hb]
    exact tryCons_no hk'.2

open Classical in
noncomputable def omC (P:Program) (K:List Con) (c:Code) (fs:FS) (h:H):RJ:=
  if hx : ∃ r:J × FS × H,Evt fun m=>(EE P K m).code c fs h = .ok r.1 r.2.1 r.2.2 then .ok (Classical.choose hx).1 (Classical.choose hx).2.1 (Classical.choose hx).2.2 else .no
open Classical in
noncomputable def omV (P:Program) (K:List Con) (t:Tgt) (h:H):RV:=
  if hx : ∃ r:AV × H,Evt fun m=>(EE P K m).call t h = .ok r.1 r.2 then .ok (Classical.choose hx).1 (Classical.choose hx).2 else .no
noncomputable def om (P:Program) (K:List Con):Evs:=⟨omC P K,omV P K⟩

theorem om_code {P:Program} {K:List Con} {c:Code} {fs fs':FS} {h h':H} {j:J} (e:(om P K).code c fs h = .ok j fs' h'):Evt fun m=>(EE P K m).code c fs h = .ok j fs' h':=by
  have e':omC P K c fs h = .ok j fs' h':=e
  unfold omC at e'
  split at e'
  · rename_i hx;cases e';exact Classical.choose_spec hx
  · cases e'
theorem om_call {P:Program} {K:List Con} {t:Tgt} {h h':H} {v:AV} (e:(om P K).call t h = .ok v h'):Evt fun m=>(EE P K m).call t h = .ok v h':=by
  have e':omV P K t h = .ok v h':=e
  unfold omV at e'
  split at e'
  · rename_i hx;cases e';exact Classical.choose_spec hx
  · cases e'
theorem om_code_of {P:Program} {K:List Con} {c:Code} {fs fs':FS} {h h':H} {j:J} (e:Evt fun m=>(EE P K m).code c fs h = .ok j fs' h'):(om P K).code c fs h = .ok j fs' h':=by
  have hx : ∃ r:J × FS × H,Evt fun m=>(EE P K m).code c fs h = .ok r.1 r.2.1 r.2.2:=⟨(j,fs',h'),e⟩
  show omC P K c fs h=_
  unfold omC
  rw [dif_pos hx]
  obtain ⟨n,h1,h2⟩:=((Classical.choose_spec hx).and e).some
  exact h1.symm.trans h2
theorem om_call_of {P:Program} {K:List Con} {t:Tgt} {h h':H} {v:AV} (e:Evt fun m=>(EE P K m).call t h = .ok v h'):(om P K).call t h = .ok v h':=by
  have hx : ∃ r:AV × H,Evt fun m=>(EE P K m).call t h = .ok r.1 r.2:=⟨(v,h'),e⟩
  show omV P K t h=_
  unfold omV
  rw [dif_pos hx]
  obtain ⟨n,h1,h2⟩:=((Classical.choose_spec hx).and e).some
  exact h1.symm.trans h2

section
variable {P:Program} {K:List Con}
def CV (P:Program) (K:List Con) (F:Evs→RV):Prop:=∀ v h,F (om P K) = .ok v h→Evt fun m=>F (EE P K m) = .ok v h
def CF (P:Program) (K:List Con) (F:Evs→RF):Prop:=∀ fs h,F (om P K) = .ok fs h→Evt fun m=>F (EE P K m) = .ok fs h
def CJ (P:Program) (K:List Con) (F:Evs→RJ):Prop:=∀ j fs h,F (om P K) = .ok j fs h→Evt fun m=>F (EE P K m) = .ok j fs h

theorem CV.const (r:RV):CV P K fun _=>r:=fun _ _ e=>.of fun _=>e
theorem CF.const (r:RF):CF P K fun _=>r:=fun _ _ e=>.of fun _=>e
theorem CJ.const (r:RJ):CJ P K fun _=>r:=fun _ _ _ e=>.of fun _=>e
theorem CV.call (t:Tgt) (h:H):CV P K fun ih=>ih.call t h:=fun _ _ e=>om_call e
theorem CJ.code (c:Code) (fs:FS) (h:H):CJ P K fun ih=>ih.code c fs h:=fun _ _ _ e=>om_code e

theorem CV.bindF {F:Evs→RV} (hF:CV P K F) {G:Evs→RV→RF} (hn : ∀ ih,G ih .no = .no) (hG : ∀ v h,CF P K fun ih=>G ih (.ok v h)):CF P K fun ih=>G ih (F ih):=fun fs h e=>by
  cases hr:F (om P K) with
  | no=>have e':G (om P K) (F (om P K)) = .ok fs h:=e;rw [hr,hn] at e';cases e'
  | ok v h1=>
    have e':G (om P K) (F (om P K)) = .ok fs h:=e
    rw [hr] at e'
    refine ((hF _ _ hr).and (hG v h1 fs h e')).mono fun n ⟨a,b⟩=>?_
    show G (EE P K n) (F (EE P K n))=_
    rw [a];exact b
theorem CV.bindV {F:Evs→RV} (hF:CV P K F) {G:Evs→RV→RV} (hn : ∀ ih,G ih .no = .no) (hG : ∀ v h,CV P K fun ih=>G ih (.ok v h)):CV P K fun ih=>G ih (F ih):=fun v h e=>by
  cases hr:F (om P K) with
  | no=>have e':G (om P K) (F (om P K)) = .ok v h:=e;rw [hr,hn] at e';cases e'
  | ok v1 h1=>
    have e':G (om P K) (F (om P K)) = .ok v h:=e
    rw [hr] at e'
    refine ((hF _ _ hr).and (hG v1 h1 v h e')).mono fun n ⟨a,b⟩=>?_
    show G (EE P K n) (F (EE P K n))=_
    rw [a];exact b
theorem CV.bindJ {F:Evs→RV} (hF:CV P K F) {G:Evs→RV→RJ} (hn : ∀ ih,G ih .no = .no) (hG : ∀ v h,CJ P K fun ih=>G ih (.ok v h)):CJ P K fun ih=>G ih (F ih):=fun j fs h e=>by
  cases hr:F (om P K) with
  | no=>have e':G (om P K) (F (om P K)) = .ok j fs h:=e;rw [hr,hn] at e';cases e'
  | ok v1 h1=>
    have e':G (om P K) (F (om P K)) = .ok j fs h:=e
    rw [hr] at e'
    refine ((hF _ _ hr).and (hG v1 h1 j fs h e')).mono fun n ⟨a,b⟩=>?_
    show G (EE P K n) (F (EE P K n))=_
    rw [a];exact b
theorem CJ.bindJ {F:Evs→RJ} (hF:CJ P K F) {G:Evs→RJ→RJ} (hn : ∀ ih,G ih .no = .no) (hG : ∀ j fs h,CJ P K fun ih=>G ih (.ok j fs h)):CJ P K fun ih=>G ih (F ih):=fun j fs h e=>by
  cases hr:F (om P K) with
  | no=>have e':G (om P K) (F (om P K)) = .ok j fs h:=e;rw [hr,hn] at e';cases e'
  | ok j1 f1 h1=>
    have e':G (om P K) (F (om P K)) = .ok j fs h:=e
    rw [hr] at e'
    refine ((hF _ _ _ hr).and (hG j1 f1 h1 j fs h e')).mono fun n ⟨a,b⟩=>?_
    show G (EE P K n) (F (EE P K n))=_
    rw [a];exact b
theorem CJ.bindV {F:Evs→RJ} (hF:CJ P K F) {G:Evs→RJ→RV} (hn : ∀ ih,G ih .no = .no) (hG : ∀ j fs h,CV P K fun ih=>G ih (.ok j fs h)):CV P K fun ih=>G ih (F ih):=fun v h e=>by
  cases hr:F (om P K) with
  | no=>have e':G (om P K) (F (om P K)) = .ok v h:=e;rw [hr,hn] at e';cases e'
  | ok j1 f1 h1=>
    have e':G (om P K) (F (om P K)) = .ok v h:=e
    rw [hr] at e'
    refine ((hF _ _ _ hr).and (hG j1 f1 h1 v h e')).mono fun n ⟨a,b⟩=>?_
    show G (EE P K n) (F (EE P K n))=_
    rw [a];exact b
theorem CF.bindJ {F:Evs→RF} (hF:CF P K F) {G:RF→RJ} (hn:G .no = .no):CJ P K fun ih=>G (F ih):=fun j fs h e=>by
  cases hr:F (om P K) with
  | no=>have e':G (F (om P K)) = .ok j fs h:=e;rw [hr,hn] at e';cases e'
  | ok f1 h1=>
    have e':G (F (om P K)) = .ok j fs h:=e
    rw [hr] at e'
    refine (hF _ _ hr).mono fun n a=>?_
    show G (F (EE P K n))=_
    rw [a];exact e'

theorem callV_cv (f:AV) (args:List AV) (h:H):CV P K fun ih=>callV P ih f args h:=by
  cases f with
  | fn g first cap=>
    cases hb:plainB P g with
    | true=>
      have e:(fun ih=>callV P ih (.fn g first cap) args h)=fun ih=>ih.call (.fn g (first++(args++cap))) h:=by
        funext ih;show (bif plainB P g then ih.call (.fn g (first++(args++cap))) h else .no)=_;rw [hb];rfl
      rw [e];exact .call _ _
    | false=>
      have e:(fun ih=>callV P ih (.fn g first cap) args h)=fun _=>RV.no:=by
        funext ih;show (bif plainB P g then ih.call (.fn g (first++(args++cap))) h else .no)=_;rw [hb];rfl
      rw [e];exact .const _
  | yld id=>exact .call _ _
  | _=>exact .const _

theorem callE_cv (tm:M AV) (ty:TypeId) (c:Call) (h:H):CV P K fun ih=>callE P ih tm ty c h:=by
  unfold callE
  cases evL tm c.args.toList with
  | none=>exact .const _
  | some args=>
    dsimp only
    cases c.callee with
    | builtin b=>exact .const _
    | value f=>
      dsimp only
      cases evT tm f with
      | none=>exact .const _
      | some f=>exact callV_cv f args h
    | invoke _ _=>exact .const _

theorem execE_cv (tm:M AV) (ty:TypeId) (op:Op) (h:H):CV P K fun ih=>execE P ih tm ty op h:=by
  cases op with
  | call c=>exact callE_cv tm ty c h
  | _=>exact .const _

theorem putE_cf (dst:Option Tmp) (v:AV) (fs:FS) (h:H) {k:Evs→FS→H→RF} (hk : ∀ fs h,CF P K fun ih=>k ih fs h):CF P K fun ih=>putE dst v fs h (k ih):=by
  cases dst with
  | none=>exact hk fs h
  | some d=>
    obtain ⟨fn,n,tm,defs,round⟩:=fs
    cases hb:Nat.ble (Nat.succ d) n with
    | false=>
      have e:(fun ih=>putE (some d) v ⟨fn,n,tm,defs,round⟩ h (k ih))=fun _=>RF.no:=by
        funext ih;unfold putE;dsimp only;rw [hb];rfl
      rw [e];exact .const _
    | true=>
      cases hs:tm.set d v with
      | none=>
        have e:(fun ih=>putE (some d) v ⟨fn,n,tm,defs,round⟩ h (k ih))=fun _=>RF.no:=by
          funext ih;unfold putE;dsimp only;rw [hb,hs];rfl
        rw [e];exact .const _
      | some tm2=>
        have e:(fun ih=>putE (some d) v ⟨fn,n,tm,defs,round⟩ h (k ih))=fun ih=>k ih ⟨fn,n,tm2,defs,round⟩ h:=by
          funext ih;unfold putE;dsimp only;rw [hb,hs];rfl
        rw [e];exact hk _ _

theorem goE_cf (dst:Option Tmp) (fs:FS) {k:Evs→FS→H→RF} (hk : ∀ fs h,CF P K fun ih=>k ih fs h) {r:Evs→RV} (hr:CV P K r):CF P K fun ih=>goE dst fs (k ih) (r ih):=
  hr.bindF (G:=fun ih x=>goE dst fs (k ih) x) (fun _=>rfl) fun v h=>putE_cf dst v fs h hk

theorem opsE_cf (ops:Array Oper) : ∀ (l:List Oper) (fs:FS) (h:H),CF P K fun ih=>opsE P ih ops l fs h
  | [],fs,h=>.const _
  | o :: l,fs,h=>by
    show CF P K fun ih=>oneE P ih ops o fs h (opsE P ih ops l)
    unfold oneE
    cases wantE ops fs.tm o.guard with
    | none=>exact .const _
    | some b=>
      cases b with
      | true=>exact goE_cf o.dst fs (k:=fun ih=>opsE P ih ops l) (fun fs h=>opsE_cf ops l fs h) (execE_cv _ _ _ _)
      | false=>exact putE_cf o.dst _ fs h (k:=fun ih=>opsE P ih ops l) (fun fs h=>opsE_cf ops l fs h)

theorem opsD_cf (ops:Array Oper) : ∀ (l:List (Oper × Bar)) (fs:FS) (h:H),CF P K fun ih=>opsD P ih ops l fs h
  | [],fs,h=>.const _
  | (o,bar) :: l,fs,h=>by
    show CF P K fun ih=>oneD P ih ops bar o fs h (opsD P ih ops l)
    unfold oneD
    cases wantE ops fs.tm o.guard with
    | none=>exact .const _
    | some b=>
      cases b with
      | true=>
        have hx:CV P K fun ih=>unmark bar fs.tm o.op h (execE P ih fs.tm o.type o.op (marked h)):=(execE_cv _ _ _ _).bindV (G:=fun _ x=>unmark bar fs.tm o.op h x) (fun _=>rfl) (fun _ _=>.const _)
        exact goE_cf o.dst fs (k:=fun ih=>opsD P ih ops l) (fun fs h=>opsD_cf ops l fs h) hx
      | false=>exact putE_cf o.dst _ fs h (k:=fun ih=>opsD P ih ops l) (fun fs h=>opsD_cf ops l fs h)

theorem regionE_cf (ops:Array Oper) (draw:Bool) (fs:FS) (h:H):CF P K fun ih=>regionE P ih ops draw fs h:=by
  cases draw with
  | false=>exact opsE_cf ops _ fs h
  | true=>
    unfold regionE
    dsimp only
    cases drawn ops with
    | none=>exact .const _
    | some l=>exact opsD_cf ops l fs h

theorem loopE_cj (fv:AV) (params:Array Tmp) (assign body:Code) (d:Pos) (fs:FS) (h:H):CJ P K fun ih=>loopE P ih fv params assign body d fs h:=by
  obtain ⟨fn,n,tm,defs,round⟩:=fs
  unfold loopE
  dsimp only
  cases newObj (.loop .ready .norm fn n tm params assign body d) h with
  | none=>exact .const _
  | some lh=>
    obtain ⟨l,h2⟩:=lh
    exact (callV_cv fv [.yld l] h2).bindJ (G:=fun _ x=>endLoopE l ⟨fn,n,tm,defs,round⟩ x) (fun _=>rfl) fun _ _=>.const _

theorem rangeE_cj (f:Operand) (params:Array Tmp) (assign body:Code) (fs:FS) (h:H):CJ P K fun ih=>rangeE P ih f params assign body fs h:=by
  obtain ⟨fn,n,tm,defs,round⟩:=fs
  unfold rangeE
  dsimp only
  cases evT tm f with
  | none=>exact .const _
  | some fv=>
    dsimp only
    cases round with
    | none=>
      dsimp only
      cases newObj .dfr h with
      | none=>exact .const _
      | some dh=>exact loopE_cj _ _ _ _ _ _ _
    | some l=>
      dsimp only
      cases getObj l h with
      | none=>exact .const _
      | some o=>cases o with
        | loop=>exact loopE_cj _ _ _ _ _ _ _
        | _=>exact .const _

theorem thenE_cj {k:Evs→FS→H→RJ} (hk : ∀ fs h,CJ P K fun ih=>k ih fs h) {r:Evs→RJ} (hr:CJ P K r):CJ P K fun ih=>thenE (k ih) (r ih):=
  hr.bindJ (G:=fun ih x=>thenE (k ih) x) (fun _=>rfl) fun j fs h=>by
    cases j with
    | norm=>exact hk fs h
    | _=>exact .const _

theorem codeE_cj (c:Code) (fs:FS) (h:H):CJ P K fun ih=>codeE P ih c fs h:=by
  cases c with
  | region id ops draw=>exact (regionE_cf ops draw fs h).bindJ (G:=normE) rfl
  | seq a b=>exact thenE_cj (k:=fun ih=>ih.code b) (fun fs h=>.code b fs h) (.code a fs h)
  | cond c a b=>
    show CJ P K fun ih=>condE ih c a b fs h
    unfold condE
    cases evT fs.tm c with
    | none=>exact .const _
    | some v=>
      dsimp only
      cases asB v with
      | none=>exact .const _
      | some t=>exact .code _ fs h
  | block id b=>exact (CJ.code b fs h).bindJ (G:=fun _ x=>outE id x) (fun _=>rfl) fun _ _ _=>.const _
  | loop b=>exact thenE_cj (k:=fun ih=>ih.code (.loop b)) (fun fs h=>.code (.loop b) fs h) (.code b fs h)
  | rangeFunc f params assign body=>exact rangeE_cj f params assign body fs h
  | scope b=>exact .code b fs h
  | _=>exact .const _

theorem zPw {c:Code} {fs fs':FS} {h h':H} {j:J} (e:codeE P (om P K) c fs h = .ok j fs' h'):(om P K).code c fs h = .ok j fs' h':=by
  obtain ⟨n,hn⟩:=codeE_cj c fs h j fs' h' e
  refine om_code_of ⟨n+1,fun m hm=>?_⟩
  obtain ⟨k,rfl⟩ : ∃ k,m=k+1:=⟨m - 1,by omega⟩
  exact hn k (by omega)

theorem callFnE_cv (g:FuncId) (args:List AV) (h:H):CV P K fun ih=>callFnE P ih g args h:=by
  unfold callFnE
  cases P.funcs[g]? with
  | none=>exact .const _
  | some fn=>
    dsimp only
    cases fn.body with
    | none=>exact .const _
    | some body=>
      dsimp only
      cases (Nat.ble args.length fn.ntmps && Nat.ble fn.ntmps 384) with
      | false=>exact .const _
      | true=>
        dsimp only [cond]
        cases fillM baseRows 0 args with
        | none=>exact .const _
        | some tm=>
          dsimp only
          have e:(fun ih:Evs=>forceNat fn.ntmps fun n=>leaveE P fn.results.toList (ih.code body ⟨g,n,tm,[],none⟩ h))=fun ih:Evs=>leaveE P fn.results.toList (ih.code body ⟨g,fn.ntmps,tm,[],none⟩ h):=by
            funext ih;rw [zLw]
          rw [e]
          exact (CJ.code body _ h).bindV (G:=fun _ x=>leaveE P fn.results.toList x) (fun _=>rfl) fun _ _ _=>.const _

theorem endRoundE_cv {l:Pos} {r:Evs→RJ} (hr:CJ P K r):CV P K fun ih=>endRoundE l (r ih):=
  hr.bindV (G:=fun _ x=>endRoundE l x) (fun _=>rfl) fun _ _ _=>.const _

theorem bodyE_cv (l:Pos) (body:Code) {r:Evs→RJ} (hr:CJ P K r):CV P K fun ih=>bodyE ih l body (r ih):=
  hr.bindV (G:=fun ih x=>bodyE ih l body x) (fun _=>rfl) fun j fs h=>by
    cases j with
    | norm=>
      unfold bodyE
      dsimp only
      cases getObj l h with
      | none=>exact .const _
      | some o=>cases o with
        | loop st pend fn n tm params assign body' d=>
          cases st with
          | ready=>
            dsimp only
            cases setObj l (.loop .busy pend fn n tm params assign body' d) h with
            | none=>exact .const _
            | some h2=>exact endRoundE_cv (.code body fs h2)
          | _=>exact .const _
        | _=>exact .const _
    | _=>exact .const _

theorem callYldE_cv (l:Pos) (args:List AV) (h:H):CV P K fun ih=>callYldE ih l args h:=by
  unfold callYldE
  cases getObj l h with
  | none=>exact .const _
  | some o=>cases o with
    | loop st pend fn n tm params assign body d=>
      dsimp only
      cases setParams n params.toList args tm with
      | none=>exact .const _
      | some tm2=>exact bodyE_cv l body (.code assign _ h)
    | _=>exact .const _

theorem tgtE_cv (t:Tgt) (h:H):CV P K fun ih=>tgtE P ih t h:=by
  cases t with
  | yld l args=>exact callYldE_cv l args h
  | fn g args=>exact (callFnE_cv g args (marked h)).bindV (G:=fun _ x=>pureCall h x) (fun _=>rfl) fun _ _=>.const _

def free (K:List Con):Tgt→Bool
  | .fn g _=>noK K g
  | .yld _ _=>true
theorem xYy {t:Tgt} {h h':H} {v:AV} (hf:free K t=true) (e:tgtE P (om P K) t h = .ok v h'):(om P K).call t h = .ok v h':=by
  obtain ⟨n,hn⟩:=tgtE_cv t h v h' e
  refine om_call_of ⟨n+1,fun m hm=>?_⟩
  obtain ⟨k,rfl⟩ : ∃ k,m=k+1:=⟨m - 1,by omega⟩
  cases t with
  | fn g args=>
    show tryCons (evc P K (k+1)).call g args h K=_
    rw [tryCons_no hf]
    exact hn k (by omega)
  | yld l args=>exact hn k (by omega)
theorem om_con {c:Con} {args:List AV} {h h':H} {v:AV} (e:applyCon c args h = .ok v h') {r:List Con} : (om P (c :: r)).call (.fn c.g args) h = .ok v h':=by
  refine om_call_of (.of fun n=>?_)
  show tryCons (evc P (c :: r) n).call c.g args h (c :: r)=_
  unfold tryCons
  rw [show Nat.beq c.g c.g=true from Nat.beq_refl _]
  show (match applyCon c args h with|.ok v h'=>RV.ok v h'|.no=>tryCons (evc P (c :: r) n).call c.g args h r)=_
  rw [e]

theorem om_ok (hm:P.follows .mixedOrders=true) (hK : ∀ c ∈ K,ConOK P c) {t:Tgt} {h h':H} {v:AV} (e:(om P K).call t h = .ok v h'):TgtOK P t h v h':=by
  obtain ⟨n,hn⟩:=(om_call e).some
  exact withCons_ok (evc_ok hm hK n).2 hK t h v h' hn
end

noncomputable def codeS (P:Program) (ω : Evs):Code→FS→H→RJ
  | .skip,fs,h=>.ok .norm fs h
  | .label _,fs,h=>.ok .norm fs h
  | .region _ ops draw,fs,h=>normE (regionE P ω ops draw fs h)
  | .seq a b,fs,h=>thenE (codeS P ω b) (codeS P ω a fs h)
  | .cond c a b,fs,h=>match evT fs.tm c with
    | some v=>match asB v with
      | some t=>bif t then codeS P ω a fs h else codeS P ω b fs h
      | none=>.no
    | none=>.no
  | .block id b,fs,h=>outE id (codeS P ω b fs h)
  | .loop b,fs,h=>ω.code (.loop b) fs h
  | .rangeFunc f params assign body,fs,h=>rangeE P ω f params assign body fs h
  | .exit id,fs,h=>.ok (.exit id) fs h
  | .scope b,fs,h=>codeS P ω b fs h
  | .ret,fs,h=>.ok .ret fs h
  | .goto _,_,_=>.no
  | .refuse _,_,_=>.no

theorem yVw {P:Program} {K:List Con} : ∀ (c:Code) {fs fs':FS} {h h':H} {j:J},codeS P (om P K) c fs h = .ok j fs' h'→(om P K).code c fs h = .ok j fs' h'
  | .skip,_,_,_,_,_,e=>zPw e
  | .label _,_,_,_,_,_,e=>zPw e
  | .region _ _ _,_,_,_,_,_,e=>zPw e
  | .seq a b,fs,fs',h,h',j,e=>by
    refine zPw (show thenE ((om P K).code b) ((om P K).code a fs h) = .ok j fs' h' from ?_)
    have e':thenE (codeS P (om P K) b) (codeS P (om P K) a fs h) = .ok j fs' h':=e
    rcases xRv e' with ⟨f1,h1,e1,e2⟩|⟨hj,e1⟩
    · rw [yVw a e1];exact yVw b e2
    · rw [yVw a e1];cases j <;> first|exact absurd rfl hj|rfl
  | .cond c a b,fs,fs',h,h',j,e=>by
    refine zPw (show condE (om P K) c a b fs h = .ok j fs' h' from ?_)
    unfold codeS at e
    unfold condE
    cases hc:evT fs.tm c with
    | none=>rw [hc] at e;cases e
    | some v=>
      rw [hc] at e
      dsimp only at e ⊢
      cases hb:asB v with
      | none=>rw [hb] at e;cases e
      | some t=>
        rw [hb] at e
        cases t with
        | true=>exact yVw a e
        | false=>exact yVw b e
  | .block id b,fs,fs',h,h',j,e=>by
    refine zPw (show outE id ((om P K).code b fs h) = .ok j fs' h' from ?_)
    have e':outE id (codeS P (om P K) b fs h) = .ok j fs' h':=e
    cases hr:codeS P (om P K) b fs h with
    | no=>rw [hr] at e';cases e'
    | ok j1 f1 h1=>rw [yVw b hr];rw [hr] at e';exact e'
  | .loop b,_,_,_,_,_,e=>e
  | .rangeFunc _ _ _ _,_,_,_,_,_,e=>zPw e
  | .exit _,_,_,_,_,_,e=>zPw e
  | .scope b,_,_,_,_,_,e=>zPw (yVw b e)
  | .ret,_,_,_,_,_,e=>zPw e
  | .goto _,_,_,_,_,_,e=>by cases e
  | .refuse _,_,_,_,_,_,e=>by cases e

end Go.Ev
end

section
namespace Go.Ev

theorem T.set_set {α : Type} (a b : α) (p:Pos) : ∀ t:T α,T.set a p (T.set b p t)=T.set a p t:=by
  induction p with
  | e=>intro t;cases t <;> rfl
  | o p ih=>intro t;cases t with
    | nil=>show T.node none (T.set a p (T.set b p .nil)) .nil=T.node none (T.set a p .nil) .nil;rw [ih]
    | node v l r=>show T.node v (T.set a p (T.set b p l)) r=T.node v (T.set a p l) r;rw [ih]
  | i p ih=>intro t;cases t with
    | nil=>show T.node none .nil (T.set a p (T.set b p .nil))=T.node none .nil (T.set a p .nil);rw [ih]
    | node v l r=>show T.node v l (T.set a p (T.set b p r))=T.node v l (T.set a p r);rw [ih]

theorem T.set_comm {α : Type} (a b : α) (p:Pos) : ∀ (q:Pos) (t:T α),p≠q→T.set a p (T.set b q t)=T.set b q (T.set a p t):=by
  induction p with
  | e=>intro q t hne;cases q with
    | e=>exact absurd rfl hne
    | o q=>cases t <;> rfl
    | i q=>cases t <;> rfl
  | o p ih=>intro q t hne;cases q with
    | e=>cases t <;> rfl
    | o q=>
      have hne':p≠q:=fun e=>hne (by rw [e])
      cases t with
      | nil=>show T.node none (T.set a p (T.set b q .nil)) .nil=T.node none (T.set b q (T.set a p .nil)) .nil;rw [ih q _ hne']
      | node v l r=>show T.node v (T.set a p (T.set b q l)) r=T.node v (T.set b q (T.set a p l)) r;rw [ih q _ hne']
    | i q=>cases t <;> rfl
  | i p ih=>intro q t hne;cases q with
    | e=>cases t <;> rfl
    | o q=>cases t <;> rfl
    | i q=>
      have hne':p≠q:=fun e=>hne (by rw [e])
      cases t with
      | nil=>show T.node none .nil (T.set a p (T.set b q .nil))=T.node none .nil (T.set b q (T.set a p .nil));rw [ih q _ hne']
      | node v l r=>show T.node v l (T.set a p (T.set b q r))=T.node v l (T.set b q (T.set a p r));rw [ih q _ hne']

def Pos.val :Pos→Nat
  | .e=>0
  | .o p=>2 * p.val+1
  | .i p=>2 * p.val+2
theorem Pos.val_succ : ∀ p:Pos,p.succ.val=p.val+1
  | .e=>rfl
  | .o p=>rfl
  | .i p=>by
    have e:(Pos.i p).succ = .o p.succ:=rfl
    rw [e]
    simp only [Pos.val,Pos.val_succ p];omega
theorem Pos.val_inj : ∀ {p q:Pos},p.val=q.val→p=q
  | .e,.e,_=>rfl
  | .e,.o _,h=>by simp [Pos.val] at h
  | .e,.i _,h=>by simp [Pos.val] at h
  | .o _,.e,h=>by simp [Pos.val] at h
  | .i _,.e,h=>by simp [Pos.val] at h
  | .o p,.o q,h=>by rw [Pos.val_inj (p:=p) (q:=q) (by simp only [Pos.val] at h;omega)]
  | .i p,.i q,h=>by rw [Pos.val_inj (p:=p) (q:=q) (by simp only [Pos.val] at h;omega)]
  | .o p,.i q,h=>by simp only [Pos.val] at h;omega
  | .i p,.o q,h=>by simp only [Pos.val] at h;omega

noncomputable def nxP (p:Pos):Nat→Pos
  | 0=>p
  | k+1=>(nxP p k).succ
theorem nxP_val (p:Pos) : ∀ k,(nxP p k).val=p.val+k
  | 0=>rfl
  | k+1=>by rw [nxP,Pos.val_succ,nxP_val p k];omega
theorem xTw {p:Pos} {i j:Nat} (h:nxP p i=nxP p j):i=j:=by
  have:=congrArg Pos.val h
  rw [nxP_val,nxP_val] at this
  omega
theorem nxP_add (p:Pos) (i:Nat) : ∀ j,nxP (nxP p i) j=nxP p (i+j)
  | 0=>rfl
  | j+1=>by show (nxP (nxP p i) j).succ=(nxP p (i+j)).succ;rw [nxP_add p i j]

noncomputable def nx (h:H) (k:Nat):Pos:=nxP h.next k

noncomputable def pushAll (objs:T (Nat × AO)) (p:Pos) (c:Nat):List AO→T (Nat × AO)
  | []=>objs
  | o :: l=>pushAll (T.set (c,o) p objs) p.succ (c+1) l

theorem xBy (p:Pos) (k:Nat):nxP p.succ k=nxP p (k+1):=by
  have:=nxP_add p 1 k
  rw [show 1+k=k+1 from by omega] at this
  exact this

theorem xXx (o:AO) : ∀ (l:List AO) (objs:T (Nat × AO)) (p:Pos) (c:Nat),pushAll objs p c (l++[o])=T.set (c+l.length,o) (nxP p l.length) (pushAll objs p c l)
  | [],_,_,_=>rfl
  | a :: l,objs,p,c=>by
    show pushAll (T.set (c,a) p objs) p.succ (c+1) (l++[o])=_
    rw [xXx o l,xBy]
    show T.set (c+1+l.length,o) (nxP p (l.length+1)) _=T.set (c+(l.length+1),o) (nxP p (l.length+1)) (pushAll (T.set (c,a) p objs) p.succ (c+1) l)
    rw [show c+1+l.length=c+(l.length+1) from by omega]

theorem xLy : ∀ (l l':List AO) (objs:T (Nat × AO)) (p:Pos) (c:Nat),pushAll objs p c (l++l')=pushAll (pushAll objs p c l) (nxP p l.length) (c+l.length) l'
  | [],l',objs,p,c=>rfl
  | a :: l,l',objs,p,c=>by
    show pushAll (T.set (c,a) p objs) p.succ (c+1) (l++l')=pushAll (pushAll (T.set (c,a) p objs) p.succ (c+1) l) (nxP p (l.length+1)) (c+(l.length+1)) l'
    rw [xLy l l',xBy,show c+1+l.length=c+(l.length+1) from by omega]

theorem yQw {q:Pos} : ∀ (l:List AO) (objs:T (Nat × AO)) (p:Pos) (c:Nat),(∀ k,k<l.length→q≠nxP p k)→T.get q (pushAll objs p c l)=T.get q objs
  | [],_,_,_,_=>rfl
  | a :: l,objs,p,c,h=>by
    show T.get q (pushAll (T.set (c,a) p objs) p.succ (c+1) l)=_
    rw [yQw l _ _ _ (fun k hk=>by rw [xBy];exact h (k+1) (by simp;omega)),T.get_set_ne _ _ _ _ (show q≠p from h 0 (by simp))]

theorem xEx : ∀ (l:List AO) (objs:T (Nat × AO)) (p:Pos) (c k:Nat),k<l.length→T.get (nxP p k) (pushAll objs p c l)=(l[k]?).map fun o=>(c+k,o)
  | [],_,_,_,k,h=>absurd h (Nat.not_lt_zero k)
  | a :: l,objs,p,c,0,_=>by
    show T.get p (pushAll (T.set (c,a) p objs) p.succ (c+1) l)=_
    rw [yQw l _ _ _ (fun k _ e=>by rw [xBy] at e;have:=xTw (i:=0) (j:=k+1) e;omega),T.get_set_same]
    rfl
  | a :: l,objs,p,c,k+1,h=>by
    show T.get (nxP p (k+1)) (pushAll (T.set (c,a) p objs) p.succ (c+1) l)=_
    rw [← xBy,xEx l _ _ _ k (by simpa using h)]
    simp only [List.getElem?_cons_succ]
    rw [show c+1+k=c+(k+1) from by omega]

theorem xGx (x:Nat × AO) {q:Pos} : ∀ (l:List AO) (objs:T (Nat × AO)) (p:Pos) (c:Nat),(∀ k,k<l.length→q≠nxP p k)→T.set x q (pushAll objs p c l)=pushAll (T.set x q objs) p c l
  | [],_,_,_,_=>rfl
  | a :: l,objs,p,c,h=>by
    show T.set x q (pushAll (T.set (c,a) p objs) p.succ (c+1) l)=pushAll (T.set (c,a) p (T.set x q objs)) p.succ (c+1) l
    rw [xGx x l _ _ _ (fun k hk=>by rw [xBy];exact h (k+1) (by simp;omega)),T.set_comm _ _ _ _ _ (show q≠p from h 0 (by simp))]

theorem pushAll_set (o:AO) : ∀ (l:List AO) (objs:T (Nat × AO)) (p:Pos) (c k:Nat),k<l.length→T.set (c+k,o) (nxP p k) (pushAll objs p c l)=pushAll objs p c (l.set k o)
  | [],_,_,_,k,h=>absurd h (Nat.not_lt_zero k)
  | a :: l,objs,p,c,0,_=>by
    show T.set (c,o) p (pushAll (T.set (c,a) p objs) p.succ (c+1) l)=pushAll (T.set (c,o) p objs) p.succ (c+1) l
    rw [xGx _ l _ _ _ (fun k _ e=>by rw [xBy] at e;have:=xTw (i:=0) (j:=k+1) e;omega),T.set_set]
  | a :: l,objs,p,c,k+1,h=>by
    show T.set (c+(k+1),o) (nxP p (k+1)) (pushAll (T.set (c,a) p objs) p.succ (c+1) l)=pushAll (T.set (c,a) p objs) p.succ (c+1) (l.set k o)
    rw [← xBy,show c+(k+1)=c+1+k from by omega,pushAll_set o l _ _ _ k (by simpa using h)]

noncomputable def X (h:H) (l:List AO) (w:Nat):H:=⟨pushAll h.objs h.next h.clock l,nxP h.next l.length,h.clock+l.length,w⟩

structure Wf (h:H):Prop where
  fresh : ∀ k,T.get (nx h k) h.objs=none
  old : ∀ id born o,T.get id h.objs=some (born,o)→born<h.clock
  wle:h.w≤h.clock

theorem X_self (h:H):X h [] h.w=h:=by cases h;rfl
theorem marked_eq (h:H):marked h=X h [] h.clock:=by cases h;rfl
theorem marked_X (h:H) (l:List AO) (w:Nat):marked (X h l w)=X h l (h.clock+l.length):=rfl
theorem xOy (h:H) (l:List AO) (w:Nat):(X h l w).clock=h.clock+l.length:=rfl
theorem X_w (h:H) (l:List AO) (w:Nat):(X h l w).w=w:=rfl
theorem nx_X (h:H) (l:List AO) (w k:Nat):nx (X h l w) k=nx h (l.length+k):=nxP_add _ _ _
theorem X_X (h:H) (l l':List AO) (w w':Nat):X (X h l w) l' w'=X h (l++l') w':=by
  unfold X
  dsimp only
  rw [xLy,nxP_add,List.length_append,Nat.add_assoc]

theorem Wf.X {h:H} (wf:Wf h) {l:List AO} {w:Nat} (hw:w≤h.clock+l.length):Wf (X h l w) where
  fresh:=fun k=>by
    rw [nx_X]
    show T.get (nxP h.next (l.length+k)) (pushAll h.objs h.next h.clock l)=none
    rw [yQw l _ _ _ (fun j hj e=>by have:=xTw e;omega)]
    exact wf.fresh _
  old:=fun id born o hid=>by
    have hid':T.get id (pushAll h.objs h.next h.clock l)=some (born,o):=hid
    show born<h.clock+l.length
    by_cases hx : ∃ k,k<l.length∧id=nxP h.next k
    · obtain ⟨k,hk,rfl⟩:=hx
      rw [xEx l _ _ _ k hk] at hid'
      simp only [Option.map_eq_some_iff,Prod.mk.injEq] at hid'
      obtain ⟨_,_,rfl,_⟩:=hid'
      omega
    · rw [yQw l _ _ _ (fun k hk e=>hx ⟨k,hk,e⟩)] at hid'
      have:=wf.old _ _ _ hid'
      omega
  wle:=hw

theorem getObj_eq (id:Pos) (h:H):getObj id h=(T.get id h.objs).map (·.2):=by
  unfold getObj
  cases T.get id h.objs <;> rfl

theorem xJy {h:H} (wf:Wf h) (o:AO) (l:List AO) (w:Nat):newObj o (X h l w)=some (nx h l.length,X h (l++[o]) w):=by
  have hn:T.get (nxP h.next l.length) (pushAll h.objs h.next h.clock l)=none:=by
    rw [yQw l _ _ _ (fun j hj e=>by have:=xTw e;omega)]
    exact wf.fresh _
  show (Option.rec (motive:=fun _=>Option (Pos × H)) (some (nxP h.next l.length,(⟨T.set (h.clock+l.length,o) (nxP h.next l.length) (pushAll h.objs h.next h.clock l),(nxP h.next l.length).succ,Nat.succ (h.clock+l.length),w⟩:H))) (fun _=>none) (T.get (nxP h.next l.length) (pushAll h.objs h.next h.clock l)):Option (Pos × H))=_
  rw [hn]
  unfold X nx
  rw [xXx,List.length_append]
  rfl

theorem zPx {h:H} (wf:Wf h) (l:List AO) (w k:Nat):getObj (nx h k) (X h l w)=l[k]?:=by
  rw [getObj_eq]
  show Option.map (·.2) (T.get (nxP h.next k) (pushAll h.objs h.next h.clock l))=_
  by_cases hk:k<l.length
  · rw [xEx l _ _ _ k hk];cases l[k]? <;> rfl
  · rw [yQw l _ _ _ (fun j hj e=>by have:=xTw e;omega)]
    have:=wf.fresh k
    unfold nx at this
    rw [this,List.getElem?_eq_none (by omega)]
    rfl

theorem xUx {h:H} (wf:Wf h) {id:Pos} {o:AO} (hg:getObj id h=some o) (l:List AO) (w:Nat):getObj id (X h l w)=some o:=by
  rw [getObj_eq] at hg ⊢
  show Option.map (·.2) (T.get id (pushAll h.objs h.next h.clock l))=_
  rw [yQw l _ _ _ (fun j hj e=>by
    have:=wf.fresh j
    unfold nx at this
    rw [e,this] at hg
    cases hg)]
  exact hg

theorem yRz {h:H} (l:List AO) (w k:Nat) (o:AO) (hk:k<l.length):setObj (nx h k) o (X h l w)=some (X h (l.set k o) (min (h.clock+k) w)):=by
  have hg:T.get (nxP h.next k) (pushAll h.objs h.next h.clock l)=some (h.clock+k,l[k]):=by
    rw [xEx l _ _ _ k hk];simp [hk]
  show (Option.rec (motive:=fun _=>Option H) none (fun bo=>Prod.rec (motive:=fun _=>Option H) (fun born _=>some (⟨T.set (born,o) (nxP h.next k) (pushAll h.objs h.next h.clock l),nxP h.next l.length,h.clock+l.length,bif Nat.ble born w then born else w⟩:H)) bo) (T.get (nxP h.next k) (pushAll h.objs h.next h.clock l)):Option H)=_
  rw [hg]
  show some (⟨T.set (h.clock+k,o) (nxP h.next k) (pushAll h.objs h.next h.clock l),nxP h.next l.length,h.clock+l.length,bif Nat.ble (h.clock+k) w then h.clock+k else w⟩:H)=_
  rw [pushAll_set o l _ _ _ k hk]
  have e:(bif Nat.ble (h.clock+k) w then h.clock+k else w)=min (h.clock+k) w:=by
    cases hb:Nat.ble (h.clock+k) w with
    | true=>have:=Nat.le_of_ble_eq_true hb;simp only [cond];omega
    | false=>
               have : ¬ (h.clock+k≤w):=fun hh=>by rw [Nat.ble_eq_true_of_le hh] at hb;cases hb
               simp only [cond];omega
  rw [e]
  unfold X
  simp

theorem pureCall_flat {h:H} {v:AV} {l:List AO} {w:Nat} (hw:h.clock≤w) (hf:flat v=true):pureCall h (.ok v (X h l w)) = .ok v h:=by
  obtain ⟨objs,next,clock,w0⟩:=h
  show (bif Nat.ble clock w && flat v then RV.ok v ⟨objs,next,clock,w0⟩ else _)=_
  rw [hf,Nat.ble_eq_true_of_le hw];rfl
theorem pureCall_ext {h:H} {v:AV} {l:List AO} {w:Nat} (hc:(Nat.ble h.clock w && flat v)=false):pureCall h (.ok v (X h l w)) = .ok v (X h l (min h.w w)):=by
  obtain ⟨objs,next,clock,w0⟩:=h
  show (bif Nat.ble clock w && flat v then RV.ok v ⟨objs,next,clock,w0⟩ else RV.ok v ⟨pushAll objs next clock l,nxP next l.length,clock+l.length,bif Nat.ble w0 w then w0 else w⟩)=_
  rw [show (Nat.ble clock w && flat v)=false from hc]
  have e:(bif Nat.ble w0 w then w0 else w)=min w0 w:=by
    cases hb:Nat.ble w0 w with
    | true=>have:=Nat.le_of_ble_eq_true hb;simp only [cond];omega
    | false=>
               have : ¬ (w0≤w):=fun hh=>by rw [Nat.ble_eq_true_of_le hh] at hb;cases hb
               simp only [cond];omega
  rw [e];rfl

abbrev TF :=Nat→AV
def upd (f:TF) (k:Nat) (v:AV):TF:=fun j=>if j=k then v else f j
theorem upd_same (f:TF) (k:Nat) (v:AV):upd f k v k=v:=if_pos rfl
theorem upd_ne {f:TF} {k j:Nat} {v:AV} (h:j≠k):upd f k v j=f j:=if_neg h

def mkM (f:TF):M AV:=(List.range 48).map fun r=>(List.range 8).map fun c=>f (8 * r+c)

theorem xFy (f:TF) (k:Nat) (hk:k<384):(mkM f).get k=some (f k):=by
  rw [M.get_eq]
  unfold mkM
  rw [List.getElem?_map,List.getElem?_range (by omega)]
  show Option.bind (some ((List.range 8).map fun c=>f (8 * (k / 8)+c))) (fun row=>row[k % 8]?)=_
  show ((List.range 8).map fun c=>f (8 * (k / 8)+c))[k % 8]? = _
  rw [List.getElem?_map,List.getElem?_range (by omega)]
  show some (f (8 * (k / 8)+k % 8))=_
  rw [show 8 * (k / 8)+k % 8=k from by omega]

theorem set_mkM (f:TF) (k:Nat) (v:AV) (hk:k<384):(mkM f).set k v=some (mkM (upd f k v)):=by
  unfold M.set
  rw [xGv]
  have h1:(mkM f)[Nat.div k (nat_lit 8)]? = some ((List.range 8).map fun c=>f (8 * (k / 8)+c)):=by
    show (mkM f)[k / 8]? = _
    unfold mkM
    rw [List.getElem?_map,List.getElem?_range (by omega)];rfl
  rw [h1]
  dsimp only
  rw [xUz,if_pos (by show k % 8<_;simp;omega)]
  dsimp only
  rw [xUz,if_pos (by show k / 8<_;unfold mkM;simp;omega)]
  congr 1
  show List.set (mkM f) (k / 8) (((List.range 8).map fun c=>f (8 * (k / 8)+c)).set (k % 8) v)=_
  apply List.ext_getElem?
  intro i
  unfold mkM
  by_cases hi:i=k / 8
  · subst hi
    rw [List.getElem?_set_self (by simp;omega),List.getElem?_map,List.getElem?_range (by omega)]
    show some _=some _
    congr 1
    apply List.ext_getElem?
    intro c
    by_cases hc:c=k % 8
    · subst hc
      rw [List.getElem?_set_self (by simp;omega),List.getElem?_map,List.getElem?_range (by omega)]
      show some v=some (upd f k v (8 * (k / 8)+k % 8))
      rw [show 8 * (k / 8)+k % 8=k from by omega,upd_same]
    · rw [List.getElem?_set_ne (Ne.symm hc),List.getElem?_map,List.getElem?_map]
      by_cases hc8:c<8
      · rw [List.getElem?_range hc8]
        show some (f _)=some (upd f k v (8 * (k / 8)+c))
        rw [upd_ne (by omega)]
      · rw [List.getElem?_eq_none (by simp;omega)];rfl
  · rw [List.getElem?_set_ne (Ne.symm hi),List.getElem?_map,List.getElem?_map]
    by_cases hi48:i<48
    · rw [List.getElem?_range hi48]
      show some _=some _
      congr 1
      apply List.map_congr_left
      intro c hc
      rw [List.mem_range] at hc
      rw [upd_ne (by omega)]
    · rw [List.getElem?_eq_none (by simp;omega)];rfl

def ini :TF:=fun _=>.tup []
theorem base_ini :baseRows=mkM ini:=rfl

end Go.Ev
end

section
namespace Go.Ev

theorem rowsGo_eq : ∀ (cs:List AV) (k:Nat) (row:List AV),row.length+k=8 → ∀ i,
    M.get (List.rec (motive:=fun _=>Nat→List AV→M AV) (fun _ row=>[row.reverse]) (fun v _ ih k row=>Nat.rec (motive:=fun _=>M AV) (row.reverse :: ih 7 [v]) (fun j _=>ih j (v :: row)) k) cs k row) i=(row.reverse++cs)[i]?
  | [],k,row,h,i=>by
    show M.get [row.reverse] i=_
    rw [M.get_eq,List.append_nil]
    by_cases hi:i / 8=0
    · rw [hi]
      show row.reverse[i % 8]? = _
      rw [show i % 8=i from by omega]
    · rw [List.getElem?_eq_none (by simp;omega),List.getElem?_eq_none (by simp;omega)];rfl
  | v :: vs,0,row,h,i=>by
    show M.get (row.reverse :: List.rec (motive:=fun _=>Nat→List AV→M AV) (fun _ row=>[row.reverse]) (fun v _ ih k row=>Nat.rec (motive:=fun _=>M AV) (row.reverse :: ih 7 [v]) (fun j _=>ih j (v :: row)) k) vs 7 [v]) i=_
    have ih:=rowsGo_eq vs 7 [v] rfl
    rw [M.get_eq]
    by_cases hi:i / 8=0
    · rw [hi]
      show row.reverse[i % 8]? = _
      rw [List.getElem?_append_left (by simp;omega),show i % 8=i from by omega]
    · obtain ⟨m,hm⟩ : ∃ m,i / 8=m+1:=⟨i / 8 - 1,by omega⟩
      rw [hm,List.getElem?_cons_succ]
      have:=ih (i - 8)
      rw [M.get_eq,show (i - 8) / 8=m from by omega,show (i - 8) % 8=i % 8 from by omega] at this
      rw [this,List.getElem?_append_right (l₁:=row.reverse) (by simp;omega)]
      simp only [List.length_reverse]
      rw [show row.length=8 from by omega];rfl
  | v :: vs,k+1,row,h,i=>by
    have:=rowsGo_eq vs k (v :: row) (by simp;omega) i
    refine Eq.trans this ?_
    rw [List.reverse_cons,List.append_assoc];rfl

theorem yYx (cs:List AV) (i:Nat):(zBz cs).get i=cs[i]?:=by
  have gen : ∀ cs:List AV,(rowsOf cs).get i=cs[i]?:=fun cs=>rowsGo_eq cs 8 [] rfl i
  match cs with
  | []=>exact gen []
  | [v]=>
    show M.get [[v]] i=_
    rw [M.get_eq]
    by_cases hi:i=0
    · subst hi;rfl
    · rw [List.getElem?_eq_none (l:=[v]) (by simp;omega)]
      by_cases h8:i / 8=0
      · rw [h8]
        show [v][i % 8]? = none
        rw [List.getElem?_eq_none (by simp;omega)]
      · rw [List.getElem?_eq_none (by simp;omega)];rfl
  | a :: b :: l=>exact gen (a :: b :: l)

noncomputable abbrev rowsGo (cs:List AV) (k:Nat) (row:List AV):M AV:=List.rec (motive:=fun _=>Nat→List AV→M AV) (fun _ row=>[row.reverse]) (fun v _ ih k row=>Nat.rec (motive:=fun _=>M AV) (row.reverse :: ih 7 [v]) (fun j _=>ih j (v :: row)) k) cs k row

theorem M.set_eq {α : Type} (m:M α) (k:Nat) (a : α) {row:List α} (h1:m[k / 8]? = some row) (h2:k % 8<row.length):m.set k a=some (List.set m (k / 8) (row.set (k % 8) a)):=by
  unfold M.set
  rw [xGv]
  change (match m[k / 8]? with|some row=>(match lset a row (k % 8) with|some row=>lset row m (k / 8)|none=>none)|none=>none)=_
  rw [h1]
  dsimp only
  rw [xUz,if_pos h2]
  dsimp only
  rw [xUz,if_pos (by obtain ⟨h,_⟩:=List.getElem?_eq_some_iff.1 h1;exact h)]

theorem M.set_cons {α : Type} (r:List α) (m m':M α) (k:Nat) (a : α) (h:M.set m k a=some m'):M.set (r :: m) (k+8) a=some (r :: m'):=by
  have hk : ∃ row,m[k / 8]? = some row∧k % 8<row.length:=by
    obtain ⟨_,_,b,hb⟩:=M.set_some h
    rw [M.get_eq] at hb
    cases hr:m[k / 8]? with
    | none=>rw [hr] at hb;cases hb
    | some row=>
      rw [hr] at hb
      have hb':row[k % 8]? = some b:=hb
      exact ⟨row,rfl,(List.getElem?_eq_some_iff.1 hb').1⟩
  obtain ⟨row,h1,h2⟩:=hk
  rw [M.set_eq m k a h1 h2] at h
  cases h
  have e1:(k+8) / 8=k / 8+1:=by omega
  have e2:(k+8) % 8=k % 8:=by omega
  rw [M.set_eq (r :: m) (k+8) a (row:=row) (by rw [e1,List.getElem?_cons_succ];exact h1) (by rw [e2];exact h2),e1,e2]
  rfl

theorem xSw (a:AV) : ∀ (cs:List AV) (k:Nat) (row row':List AV) (i:Nat),row.length+k=8→i<row.length→row'.reverse=row.reverse.set i a→M.set (rowsGo cs k row) i a=some (rowsGo cs k row')
  | [],k,row,row',i,h,hi,e=>by
    have h8:i / 8=0:=by omega
    have h9:i % 8=i:=by omega
    show M.set [row.reverse] i a=some [row'.reverse]
    rw [M.set_eq [row.reverse] i a (row:=row.reverse) (by rw [h8];rfl) (by simp;omega),h8,h9,e]
    rfl
  | v :: vs,0,row,row',i,h,hi,e=>by
    have h8:i / 8=0:=by omega
    have h9:i % 8=i:=by omega
    show M.set (row.reverse :: rowsGo vs 7 [v]) i a=some (row'.reverse :: rowsGo vs 7 [v])
    rw [M.set_eq (row.reverse :: rowsGo vs 7 [v]) i a (row:=row.reverse) (by rw [h8];rfl) (by simp;omega),h8,h9,e]
    rfl
  | v :: vs,k+1,row,row',i,h,hi,e=>by
    refine xSw a vs k (v :: row) (v :: row') i (by simp;omega) (by simp;omega) ?_
    rw [List.reverse_cons,List.reverse_cons,e,List.set_append_left _ _ (by simpa using hi)]

theorem xSx (a:AV) : ∀ (cs:List AV) (k:Nat) (row:List AV) (i:Nat),row.length+k=8→i<cs.length→M.set (rowsGo cs k row) (row.length+i) a=some (rowsGo (cs.set i a) k row)
  | [],k,row,i,h,hi=>absurd hi (Nat.not_lt_zero i)
  | v :: vs,0,row,0,h,_=>by
    have hr:row.length=8:=by omega
    show M.set (row.reverse :: rowsGo vs 7 [v]) (row.length+0) a=some (row.reverse :: rowsGo vs 7 [a])
    rw [hr]
    exact M.set_cons _ _ _ 0 a (xSw a vs 7 [v] [a] 0 rfl (by simp) rfl)
  | v :: vs,0,row,i+1,h,hi=>by
    have hr:row.length=8:=by omega
    show M.set (row.reverse :: rowsGo vs 7 [v]) (row.length+(i+1)) a=some (row.reverse :: rowsGo (vs.set i a) 7 [v])
    have:=M.set_cons row.reverse _ _ _ a (xSx a vs 7 [v] i rfl (by simpa using hi))
    rw [show row.length+(i+1)=[v].length+i+8 from by simp;omega]
    exact this
  | v :: vs,k+1,row,0,h,_=>by
    show M.set (rowsGo vs k (v :: row)) (row.length+0) a=some (rowsGo vs k (a :: row))
    refine xSw a vs k (v :: row) (a :: row) row.length (by simp;omega) (by simp) ?_
    rw [List.reverse_cons,List.reverse_cons,List.set_append_right _ _ (by simp)]
    simp
  | v :: vs,k+1,row,i+1,h,hi=>by
    show M.set (rowsGo vs k (v :: row)) (row.length+(i+1)) a=some (rowsGo (vs.set i a) k (v :: row))
    have:=xSx a vs k (v :: row) i (by simp;omega) (by simpa using hi)
    rw [show row.length+(i+1)=(v :: row).length+i from by simp;omega]
    exact this

theorem xNz (cs:List AV) (i:Nat) (a:AV) (hi:i<cs.length):(zBz cs).set i a=some (zBz (cs.set i a)):=by
  have gen : ∀ cs:List AV,i<cs.length→M.set (rowsOf cs) i a=some (rowsOf (cs.set i a)):=fun cs hi=>by
    have:=xSx a cs 8 [] i rfl hi
    rw [show ([]:List AV).length+i=i from by simp] at this
    exact this
  match cs,hi with
  | [],hi=>exact absurd hi (Nat.not_lt_zero i)
  | [v],hi=>
    have:i=0:=by simpa using hi
    subst this
    rfl
  | x :: b :: l,hi=>
    have e : ∀ l':List AV,l'.length=(x :: b :: l).length→zBz l'=rowsOf l':=fun l' hl=>by
      match l',hl with
      | y :: z :: m,_=>rfl
    rw [e (x :: b :: l) rfl,e ((x :: b :: l).set i a) (by simp)]
    exact gen _ hi

def splice (cs:List AV) (off:Nat) (vs:List AV):List AV:=cs.take off++vs++cs.drop (off+vs.length)
theorem splice_nil (cs:List AV) (off:Nat):splice cs off []=cs:=by unfold splice;simp
theorem splice_cons {cs vs:List AV} {off:Nat} {v:AV} (h:off<cs.length):splice (cs.set off v) (off+1) vs=splice cs off (v :: vs):=by
  unfold splice
  have e1:List.take (off+1) (cs.set off v)=List.take off cs++[v]:=by
    rw [List.take_add_one,List.getElem?_set_self h,List.take_set_of_le (Nat.le_refl off)];rfl
  rw [e1,List.drop_set_of_lt (by omega),List.append_assoc,List.append_assoc,List.append_assoc]
  simp only [List.length_cons,List.singleton_append,List.cons_append,List.nil_append]
  rw [show off+1+vs.length=off+(vs.length+1) from by omega]

theorem xNw : ∀ (vs cs:List AV) (off:Nat),off+vs.length≤cs.length→fillM (zBz cs) off vs=some (zBz (splice cs off vs))
  | [],cs,off,_=>by rw [splice_nil];rfl
  | v :: vs,cs,off,h=>by
    simp only [List.length_cons] at h
    unfold fillM
    rw [xNz cs off v (by omega)]
    dsimp only
    rw [xNw vs (cs.set off v) (off+1) (by simp;omega),splice_cons (by omega)]

theorem yZy (cs:List AV) : ∀ (n off:Nat),off+n≤cs.length→readM (zBz cs).get n off=some ((cs.drop off).take n)
  | 0,off,_=>by simp [readM]
  | n+1,off,h=>by
    unfold readM
    rw [yYx,List.getElem?_eq_getElem (by omega)]
    dsimp only
    rw [yZy cs n (off+1) (by omega),List.drop_eq_getElem_cons (i:=off) (by omega)]
    rfl

end Go.Ev
end

section
namespace Go.Ev

def WV (r:RV) (Q:AV→H→Prop):Prop:=∃ v h,r = .ok v h∧Q v h
theorem WV_ok {v:AV} {h:H} {Q:AV→H→Prop} (q:Q v h):WV (.ok v h) Q:=⟨v,h,rfl,q⟩
theorem WV_okI {v:AV} {h:H} {Q:AV→H→Prop} : WV (.ok v h) Q ↔ Q v h:=⟨fun ⟨_,_,e,q⟩=>by cases e;exact q,WV_ok⟩
theorem zOv {r:RV} {v:AV} {h:H} {Q:AV→H→Prop} (e:r = .ok v h) (q:Q v h):WV r Q:=⟨v,h,e,q⟩
theorem WV.mono {r:RV} {Q Q':AV→H→Prop} (w:WV r Q) (k : ∀ v h,Q v h→Q' v h):WV r Q':=let ⟨v,h,e,q⟩:=w;⟨v,h,e,k v h q⟩
theorem zIx {r:RV} {Q0:AV→H→Prop} (k : ∀ Q:AV→H→Prop,(∀ v h,Q0 v h→Q v h)→WV r Q):WV r Q0:=k Q0 fun _ _ x=>x

structure Cx where
  P:Program
  K:List Con
  g:FuncId
  n:Nat
  r:Option Pos

def Cx.fs (x:Cx) (f:TF) (d:List Pos):FS:=⟨x.g,x.n,mkM f,d,x.r⟩

abbrev CQ :=J→TF→List Pos→H→Prop

structure WC (x:Cx) (c:Code) (f:TF) (d:List Pos) (h:H) (Q:CQ):Prop where
  out : ∃ j f' d' h',codeS x.P (om x.P x.K) c (x.fs f d) h = .ok j (x.fs f' d') h'∧Q j f' d' h'
theorem WC.mono {x:Cx} {c:Code} {f:TF} {d:List Pos} {h:H} {Q Q':CQ} (w:WC x c f d h Q) (k : ∀ j f d h,Q j f d h→Q' j f d h):WC x c f d h Q':=
  let ⟨j,f',d',h',e,q⟩:=w;⟨j,f',d',h',e,k _ _ _ _ q⟩

def seqQ (x:Cx) (b:Code) (Q:CQ):CQ
  | .norm,f,d,h=>WC x b f d h Q
  | .exit id,f,d,h=>Q (.exit id) f d h
  | .ret,f,d,h=>Q .ret f d h
def blkQ (id:Nat) (Q:CQ):CQ
  | .norm,f,d,h=>Q .norm f d h
  | .exit id',f,d,h=>bif Nat.beq id' id then Q .norm f d h else Q (.exit id') f d h
  | .ret,f,d,h=>Q .ret f d h

section
variable {x:Cx} {a b:Code} {f:TF} {d:List Pos} {h:H} {Q:CQ}

theorem zCz (w:WC x b f d h Q):seqQ x b Q .norm f d h:=w
theorem zDw (w:Q .ret f d h):seqQ x b Q .ret f d h:=w
theorem zCy {id:Nat} (w:Q (.exit id) f d h):seqQ x b Q (.exit id) f d h:=w
theorem zCv {id:Nat} (w:Q .norm f d h):blkQ id Q .norm f d h:=w
theorem zEx {id:Nat} (w:Q .ret f d h):blkQ id Q .ret f d h:=w
theorem zDz {id:Nat} (w:Q .norm f d h):blkQ id Q (.exit id) f d h:=by
  show (bif Nat.beq id id then Q .norm f d h else Q (.exit id) f d h)
  rw [show Nat.beq id id=true from Nat.beq_refl id];exact w
theorem zEw {id id':Nat} (e:Nat.beq id' id=false) (w:Q (.exit id') f d h):blkQ id Q (.exit id') f d h:=by
  show (bif Nat.beq id' id then Q .norm f d h else Q (.exit id') f d h)
  rw [e];exact w

theorem zJx (w:WC x a f d h (seqQ x b Q)):WC x (.seq a b) f d h Q:=by
  obtain ⟨j,f',d',h',e,q⟩:=w
  cases j with
  | norm=>
    obtain ⟨j,f2,d2,h2,e2,q2⟩:=q
    exact ⟨j,f2,d2,h2,by show thenE _ (codeS x.P (om x.P x.K) a (x.fs f d) h)=_;rw [e];exact e2,q2⟩
  | exit id=>exact ⟨_,f',d',h',by show thenE _ (codeS x.P (om x.P x.K) a (x.fs f d) h)=_;rw [e];rfl,q⟩
  | ret=>exact ⟨_,f',d',h',by show thenE _ (codeS x.P (om x.P x.K) a (x.fs f d) h)=_;rw [e];rfl,q⟩
theorem zGw (w:Q .norm f d h):WC x .skip f d h Q:=⟨_,_,_,_,rfl,w⟩
theorem zFz {l:Nat} (w:Q .norm f d h):WC x (.label l) f d h Q:=⟨_,_,_,_,rfl,w⟩
theorem zJw (w:Q .ret f d h):WC x .ret f d h Q:=⟨_,_,_,_,rfl,w⟩
theorem zGv {id:Nat} (w:Q (.exit id) f d h):WC x (.exit id) f d h Q:=⟨_,_,_,_,rfl,w⟩
theorem zEv (w:WC x a f d h Q):WC x (.scope a) f d h Q:=⟨w.out⟩
theorem zFy {id:Nat} (w:WC x a f d h (blkQ id Q)):WC x (.block id a) f d h Q:=by
  obtain ⟨j,f',d',h',e,q⟩:=w
  cases j with
  | norm=>exact ⟨_,f',d',h',by show outE id (codeS x.P (om x.P x.K) a (x.fs f d) h)=_;rw [e];rfl,q⟩
  | ret=>exact ⟨_,f',d',h',by show outE id (codeS x.P (om x.P x.K) a (x.fs f d) h)=_;rw [e];rfl,q⟩
  | exit id'=>
    cases hb:Nat.beq id' id with
    | true=>
      refine ⟨.norm,f',d',h',?_,?_⟩
      · show outE id (codeS x.P (om x.P x.K) a (x.fs f d) h)=_
        rw [e]
        show RJ.ok (bif Nat.beq id' id then .norm else .exit id') _ _=_
        rw [hb];rfl
      · have q':(bif Nat.beq id' id then Q .norm f' d' h' else Q (.exit id') f' d' h'):=q
        rw [hb] at q';exact q'
    | false=>
      refine ⟨.exit id',f',d',h',?_,?_⟩
      · show outE id (codeS x.P (om x.P x.K) a (x.fs f d) h)=_
        rw [e]
        show RJ.ok (bif Nat.beq id' id then .norm else .exit id') _ _=_
        rw [hb];rfl
      · have q':(bif Nat.beq id' id then Q .norm f' d' h' else Q (.exit id') f' d' h'):=q
        rw [hb] at q';exact q'

def WB (o:Option AV) (K:Bool→Prop):Prop:=∃ t,o=some (.bool t)∧K t
theorem zHy {t:Bool} {K:Bool→Prop} : WB (some (.bool t)) K ↔ K t:=⟨fun ⟨_,e,q⟩=>by cases e;exact q,fun q=>⟨t,rfl,q⟩⟩
def condK (A B:Prop) (t:Bool):Prop:=(t=true→A)∧(t=false→B)
theorem zEz {A B:Prop} (a:A):condK A B true:=⟨fun _=>a,(fun e=>by cases e)⟩
theorem zEy {A B:Prop} (b:B):condK A B false:=⟨(fun e=>by cases e),fun _=>b⟩
theorem zHz {c:Operand} (w : ∀ K:Bool→Prop,(∀ t,condK (WC x a f d h Q) (WC x b f d h Q) t→K t)→WB (evT (mkM f) c) K):WC x (.cond c a b) f d h Q:=by
  obtain ⟨t,e,k⟩:=w (condK (WC x a f d h Q) (WC x b f d h Q)) fun _ x=>x
  have step:codeS x.P (om x.P x.K) (.cond c a b) (x.fs f d) h=bif t then codeS x.P (om x.P x.K) a (x.fs f d) h else codeS x.P (om x.P x.K) b (x.fs f d) h:=by
    rw [codeS]
    show (match evT (mkM f) c with|some v=>(match asB v with|some t=>bif t then codeS x.P (om x.P x.K) a (x.fs f d) h else codeS x.P (om x.P x.K) b (x.fs f d) h|none=>.no)|none=>.no)=_
    rw [e];rfl
  cases t with
  | true=>obtain ⟨j,f',d',h',e,q⟩:=k.1 rfl;exact ⟨j,f',d',h',step.trans e,q⟩
  | false=>obtain ⟨j,f',d',h',e,q⟩:=k.2 rfl;exact ⟨j,f',d',h',step.trans e,q⟩

structure WO (x:Cx) (ops:Array Oper) (l:List Oper) (f:TF) (d:List Pos) (h:H) (Q:TF→H→Prop):Prop where
  out : ∃ f' h',opsE x.P (om x.P x.K) ops l (x.fs f d) h = .ok (x.fs f' d) h'∧Q f' h'
theorem zDy {id:Nat} {ops:Array Oper} (w:WO x ops ops.toList f d h fun f h=>Q .norm f d h):WC x (.region id ops false) f d h Q:=by
  obtain ⟨f',h',e,q⟩:=w
  exact ⟨.norm,f',d,h',by show normE (opsE x.P (om x.P x.K) ops ops.toList (x.fs f d) h)=_;rw [e];rfl,q⟩

variable {ops:Array Oper} {o:Oper} {rest:List Oper} {Qo:TF→H→Prop}
theorem zIv (q:Qo f h):WO x ops [] f d h Qo:=⟨f,h,rfl,q⟩

theorem yUv {dst:Option Tmp} {k:Nat} {v:AV} {K:FS→H→RF} (hd:dst=some k) (hk:(Nat.ble (Nat.succ k) x.n && Nat.ble (Nat.succ k) 384)=true):putE dst v (x.fs f d) h K=K (x.fs (upd f k v) d) h:=by
  subst hd
  rw [Bool.and_eq_true] at hk
  unfold putE Cx.fs
  dsimp only
  rw [hk.1,set_mkM _ _ _ (Nat.le_of_ble_eq_true hk.2)];rfl
theorem xXy {dst:Option Tmp} {v:AV} {K:FS→H→RF} (hd:dst=none):putE dst v (x.fs f d) h K=K (x.fs f d) h:=by
  subst hd;rfl

theorem zKy (hg:o.guard=none) {k:Nat} (hd:o.dst=some k) (hk:(Nat.ble (Nat.succ k) x.n && Nat.ble (Nat.succ k) 384)=true)
    (w:WV (execE x.P (om x.P x.K) (mkM f) o.type o.op h) fun v h'=>WO x ops rest (upd f k v) d h' Qo):WO x ops (o :: rest) f d h Qo:=by
  obtain ⟨v,h1,e,f',h',e',q⟩:=w
  refine ⟨f',h',?_,q⟩
  show oneE x.P (om x.P x.K) ops o (x.fs f d) h (opsE x.P (om x.P x.K) ops rest)=_
  unfold oneE
  rw [hg]
  show goE o.dst (x.fs f d) (opsE x.P (om x.P x.K) ops rest) (execE x.P (om x.P x.K) (mkM f) o.type o.op h)=_
  rw [e]
  show putE o.dst v (x.fs f d) h1 (opsE x.P (om x.P x.K) ops rest)=_
  rw [yUv hd hk];exact e'
theorem zIw (hg:o.guard=none) (hd:o.dst=none)
    (w:WV (execE x.P (om x.P x.K) (mkM f) o.type o.op h) fun _ h'=>WO x ops rest f d h' Qo):WO x ops (o :: rest) f d h Qo:=by
  obtain ⟨v,h1,e,f',h',e',q⟩:=w
  refine ⟨f',h',?_,q⟩
  show oneE x.P (om x.P x.K) ops o (x.fs f d) h (opsE x.P (om x.P x.K) ops rest)=_
  unfold oneE
  rw [hg]
  show goE o.dst (x.fs f d) (opsE x.P (om x.P x.K) ops rest) (execE x.P (om x.P x.K) (mkM f) o.type o.op h)=_
  rw [e]
  show putE o.dst v (x.fs f d) h1 (opsE x.P (om x.P x.K) ops rest)=_
  rw [xXy hd];exact e'

def gateK (want:Bool) (A B:Prop) (o:Option Bool):Prop:=(o=some want→A)∧(o≠some want→B)
theorem zCx {want:Bool} {A B:Prop} (a:A):gateK want A B (some want):=⟨fun _=>a,fun e=>absurd rfl e⟩
theorem zDv {want t:Bool} {A B:Prop} (hne:t≠want) (b:B):gateK want A B (some t):=⟨(fun e=>by cases e;exact absurd rfl hne),fun _=>b⟩
theorem zBx {want:Bool} {A B:Prop} (b:B):gateK want A B none:=⟨(fun e=>by cases e),fun _=>b⟩
theorem wantE_gate {g:Nat × Bool} {dd:Nat} (hj:(ops[g.1]?).bind (·.dst)=some dd) (hk:Nat.ble (Nat.succ dd) 384=true):wantE ops (mkM f) (some g)=some (decide (asB (f dd)=some g.2)):=by
  show guardE ops (mkM f) g.1 g.2=_
  unfold guardE
  cases ho:ops[g.1]? with
  | none=>rw [ho] at hj;cases hj
  | some oj=>
    rw [ho] at hj
    have hj':oj.dst=some dd:=hj
    dsimp only
    rw [hj']
    dsimp only
    rw [xFy _ _ (Nat.le_of_ble_eq_true hk)]
    dsimp only
    cases asB (f dd) with
    | none=>simp
    | some b=>cases b <;> cases g.2 <;> rfl

theorem zGy {g:Nat × Bool} (hg:o.guard=some g) {dd:Nat} (hj:(ops[g.1]?).bind (·.dst)=some dd) (hk2:Nat.ble (Nat.succ dd) 384=true) {k:Nat} (hd:o.dst=some k) (hk:(Nat.ble (Nat.succ k) x.n && Nat.ble (Nat.succ k) 384)=true)
    (w : ∀ K:Option Bool→Prop,(∀ t,gateK g.2 (WV (execE x.P (om x.P x.K) (mkM f) o.type o.op h) fun v h'=>WO x ops rest (upd f k v) d h' Qo) (WO x ops rest (upd f k (.tup [])) d h Qo) t→K t)→K (asB (f dd))):WO x ops (o :: rest) f d h Qo:=by
  have w':=w _ fun _ x=>x
  refine ⟨?_⟩
  show ∃ f' h',oneE x.P (om x.P x.K) ops o (x.fs f d) h (opsE x.P (om x.P x.K) ops rest) = .ok (x.fs f' d) h'∧Qo f' h'
  unfold oneE
  rw [hg]
  show ∃ f' h',(Option.rec (motive:=fun _=>RF) .no (fun b=>bif b then goE o.dst (x.fs f d) (opsE x.P (om x.P x.K) ops rest) (execE x.P (om x.P x.K) (mkM f) o.type o.op h) else putE o.dst (.tup []) (x.fs f d) h (opsE x.P (om x.P x.K) ops rest)) (wantE ops (mkM f) (some g)):RF)=_∧_
  rw [wantE_gate hj hk2]
  by_cases hw:asB (f dd)=some g.2
  · obtain ⟨v,h1,e,f',h',e',q⟩:=w'.1 hw
    refine ⟨f',h',?_,q⟩
    rw [decide_eq_true hw]
    show goE o.dst (x.fs f d) (opsE x.P (om x.P x.K) ops rest) (execE x.P (om x.P x.K) (mkM f) o.type o.op h)=_
    rw [e]
    show putE o.dst v (x.fs f d) h1 (opsE x.P (om x.P x.K) ops rest)=_
    rw [yUv hd hk];exact e'
  · obtain ⟨f',h',e',q⟩:=w'.2 hw
    refine ⟨f',h',?_,q⟩
    rw [decide_eq_false hw]
    show putE o.dst (.tup []) (x.fs f d) h (opsE x.P (om x.P x.K) ops rest)=_
    rw [yUv hd hk];exact e'
end

structure WD (x:Cx) (ops:Array Oper) (l:List (Oper × Bar)) (f:TF) (d:List Pos) (h:H) (Q:TF→H→Prop):Prop where
  out : ∃ f' h',opsD x.P (om x.P x.K) ops l (x.fs f d) h = .ok (x.fs f' d) h'∧Q f' h'
section
variable {x:Cx} {f:TF} {d:List Pos} {h:H} {Q:CQ} {ops:Array Oper} {o:Oper} {bar:Bar} {rest:List (Oper × Bar)} {Qo:TF→H→Prop}
theorem WC_drawn {id:Nat} {l:List (Oper × Bar)} (hd:drawn ops=some l) (w:WD x ops l f d h fun f h=>Q .norm f d h):WC x (.region id ops true) f d h Q:=by
  obtain ⟨f',h',e,q⟩:=w
  refine ⟨.norm,f',d,h',?_,q⟩
  show normE (match drawn ops with|some l=>opsD x.P (om x.P x.K) ops l (x.fs f d) h|none=>.no)=_
  rw [hd]
  dsimp only
  rw [e];rfl
theorem zPy {id:Nat} (bars:List Bar) (hd:drawn ops=some (ops.toList.zip bars)) (w:WD x ops (ops.toList.zip bars) f d h fun f h=>Q .norm f d h):WC x (.region id ops true) f d h Q:=WC_drawn hd w
theorem zJy (q:Qo f h):WD x ops [] f d h Qo:=⟨f,h,rfl,q⟩

theorem unmark_keep {tm:M AV} {op:Op} {h0:H} {l l':List AO} {w w':Nat} {v:AV} (hw:h0.clock+l.length≤w') (hle:w≤h0.clock+l.length) :
    unmark bar tm op (X h0 l w) (.ok v (X h0 l' w')) = .ok v (X h0 l' w):=by
  show (bif Nat.ble (h0.clock+l.length) w' || barOk bar tm op then RV.ok v ⟨pushAll h0.objs h0.next h0.clock l',nxP h0.next l'.length,h0.clock+l'.length,bif Nat.ble w w' then w else w'⟩ else .no)=_
  rw [Nat.ble_eq_true_of_le hw,Nat.ble_eq_true_of_le (Nat.le_trans hle hw)];rfl
theorem unmark_full {tm:M AV} {op:Op} {h0:H} {l l':List AO} {w w':Nat} {v:AV} : unmark .full tm op (X h0 l w) (.ok v (X h0 l' w')) = .ok v (X h0 l' (min w w')):=by
  show (bif Nat.ble (h0.clock+l.length) w' || true then RV.ok v ⟨pushAll h0.objs h0.next h0.clock l',nxP h0.next l'.length,h0.clock+l'.length,bif Nat.ble w w' then w else w'⟩ else .no)=_
  rw [Bool.or_true]
  have e:(bif Nat.ble w w' then w else w')=min w w':=by
    cases hb:Nat.ble w w' with
    | true=>have:=Nat.le_of_ble_eq_true hb;simp only [cond];omega
    | false=>
               have : ¬ (w≤w'):=fun hh=>by rw [Nat.ble_eq_true_of_le hh] at hb;cases hb
               simp only [cond];omega
  show RV.ok v _=_
  rw [e];rfl
theorem zKx (hg:o.guard=none) {k:Nat} (hd:o.dst=some k) (hk:(Nat.ble (Nat.succ k) x.n && Nat.ble (Nat.succ k) 384)=true)
    (w:WV (unmark bar (mkM f) o.op h (execE x.P (om x.P x.K) (mkM f) o.type o.op (marked h))) fun v h'=>WD x ops rest (upd f k v) d h' Qo):WD x ops ((o,bar) :: rest) f d h Qo:=by
  obtain ⟨v,h1,e,f',h',e',q⟩:=w
  refine ⟨f',h',?_,q⟩
  show oneD x.P (om x.P x.K) ops bar o (x.fs f d) h (opsD x.P (om x.P x.K) ops rest)=_
  unfold oneD
  rw [hg]
  show goE o.dst (x.fs f d) (opsD x.P (om x.P x.K) ops rest) (unmark bar (mkM f) o.op h (execE x.P (om x.P x.K) (mkM f) o.type o.op (marked h)))=_
  rw [e]
  show putE o.dst v (x.fs f d) h1 (opsD x.P (om x.P x.K) ops rest)=_
  rw [yUv hd hk];exact e'
theorem zJz (hg:o.guard=none) (hd:o.dst=none)
    (w:WV (unmark bar (mkM f) o.op h (execE x.P (om x.P x.K) (mkM f) o.type o.op (marked h))) fun _ h'=>WD x ops rest f d h' Qo):WD x ops ((o,bar) :: rest) f d h Qo:=by
  obtain ⟨v,h1,e,f',h',e',q⟩:=w
  refine ⟨f',h',?_,q⟩
  show oneD x.P (om x.P x.K) ops bar o (x.fs f d) h (opsD x.P (om x.P x.K) ops rest)=_
  unfold oneD
  rw [hg]
  show goE o.dst (x.fs f d) (opsD x.P (om x.P x.K) ops rest) (unmark bar (mkM f) o.op h (execE x.P (om x.P x.K) (mkM f) o.type o.op (marked h)))=_
  rw [e]
  show putE o.dst v (x.fs f d) h1 (opsD x.P (om x.P x.K) ops rest)=_
  rw [xXy hd];exact e'
theorem zGx {g:Nat × Bool} (hg:o.guard=some g) {dd:Nat} (hj:(ops[g.1]?).bind (·.dst)=some dd) (hk2:Nat.ble (Nat.succ dd) 384=true) {k:Nat} (hd:o.dst=some k) (hk:(Nat.ble (Nat.succ k) x.n && Nat.ble (Nat.succ k) 384)=true)
    (w : ∀ K:Option Bool→Prop,(∀ t,gateK g.2 (WV (unmark bar (mkM f) o.op h (execE x.P (om x.P x.K) (mkM f) o.type o.op (marked h))) fun v h'=>WD x ops rest (upd f k v) d h' Qo) (WD x ops rest (upd f k (.tup [])) d h Qo) t→K t)→K (asB (f dd))):WD x ops ((o,bar) :: rest) f d h Qo:=by
  have w':=w _ fun _ x=>x
  refine ⟨?_⟩
  show ∃ f' h',oneD x.P (om x.P x.K) ops bar o (x.fs f d) h (opsD x.P (om x.P x.K) ops rest) = .ok (x.fs f' d) h'∧Qo f' h'
  unfold oneD
  rw [hg]
  show ∃ f' h',(match wantE ops (mkM f) (some g) with|some true=>goE o.dst (x.fs f d) (opsD x.P (om x.P x.K) ops rest) (unmark bar (mkM f) o.op h (execE x.P (om x.P x.K) (mkM f) o.type o.op (marked h)))|some false=>putE o.dst (.tup []) (x.fs f d) h (opsD x.P (om x.P x.K) ops rest)|none=>.no)=_∧_
  rw [wantE_gate hj hk2]
  by_cases hw:asB (f dd)=some g.2
  · obtain ⟨v,h1,e,f',h',e',q⟩:=w'.1 hw
    refine ⟨f',h',?_,q⟩
    rw [decide_eq_true hw]
    show goE o.dst (x.fs f d) (opsD x.P (om x.P x.K) ops rest) (unmark bar (mkM f) o.op h (execE x.P (om x.P x.K) (mkM f) o.type o.op (marked h)))=_
    rw [e]
    show putE o.dst v (x.fs f d) h1 (opsD x.P (om x.P x.K) ops rest)=_
    rw [yUv hd hk];exact e'
  · obtain ⟨f',h',e',q⟩:=w'.2 hw
    refine ⟨f',h',?_,q⟩
    rw [decide_eq_false hw]
    show putE o.dst (.tup []) (x.fs f d) h (opsD x.P (om x.P x.K) ops rest)=_
    rw [yUv hd hk];exact e'
end

def roundQ {α : Type} (S : α → TF→List Pos→H→Prop) (μ : α → Nat) (a : α) (Q:CQ):CQ
  | .norm,f,d,h=>∃ a',μ a' < μ a∧S a' f d h
  | .exit id,f,d,h=>Q (.exit id) f d h
  | .ret,f,d,h=>Q .ret f d h
theorem zOw {x:Cx} {b:Code} {Q:CQ} {α : Type} (S : α → TF→List Pos→H→Prop) (μ : α → Nat)
    (step : ∀ a f d h,S a f d h→WC x b f d h (roundQ S μ a Q)) : ∀ (m:Nat) (a : α),μ a<m → ∀ {f:TF} {d:List Pos} {h:H},S a f d h→WC x (.loop b) f d h Q
  | 0,_,hm,_,_,_,_=>absurd hm (Nat.not_lt_zero _)
  | m+1,a,hm,f,d,h,hs=>by
    obtain ⟨j,f',d',h',e,q⟩:=step a f d h hs
    have e1:(om x.P x.K).code b (x.fs f d) h = .ok j (x.fs f' d') h':=yVw b e
    cases j with
    | norm=>
      obtain ⟨a',hlt,hs'⟩:=q
      obtain ⟨j2,f2,d2,h2,e2,q2⟩:=zOw (Q:=Q) S μ step m a' (by omega) hs'
      refine ⟨j2,f2,d2,h2,?_,q2⟩
      show (om x.P x.K).code (.loop b) (x.fs f d) h=_
      refine zPw (show thenE ((om x.P x.K).code (.loop b)) ((om x.P x.K).code b (x.fs f d) h)=_ from ?_)
      rw [e1];exact e2
    | exit id=>
      refine ⟨.exit id,f',d',h',?_,q⟩
      show (om x.P x.K).code (.loop b) (x.fs f d) h=_
      refine zPw (show thenE ((om x.P x.K).code (.loop b)) ((om x.P x.K).code b (x.fs f d) h)=_ from ?_)
      rw [e1];rfl
    | ret=>
      refine ⟨.ret,f',d',h',?_,q⟩
      show (om x.P x.K).code (.loop b) (x.fs f d) h=_
      refine zPw (show thenE ((om x.P x.K).code (.loop b)) ((om x.P x.K).code b (x.fs f d) h)=_ from ?_)
      rw [e1];rfl
theorem zJv {α : Type} {S : α → TF→List Pos→H→Prop} {μ : α → Nat} {a : α} {Q:CQ} {f:TF} {d:List Pos} {h:H} (a' : α) (hlt : μ a' < μ a) (hs:S a' f d h):roundQ S μ a Q .norm f d h:=⟨a',hlt,hs⟩
theorem zAw {α : Type} {S : α → TF→List Pos→H→Prop} {μ : α → Nat} {a : α} {Q:CQ} {f:TF} {d:List Pos} {h:H} {id:Nat} (q:Q (.exit id) f d h):roundQ S μ a Q (.exit id) f d h:=q
theorem zBy {α : Type} {S : α → TF→List Pos→H→Prop} {μ : α → Nat} {a : α} {Q:CQ} {f:TF} {d:List Pos} {h:H} (q:Q .ret f d h):roundQ S μ a Q .ret f d h:=q

def endQ (P:Program) (rs:List ResultVar) (h:H) (Q:AV→H→Prop):CQ
  | .exit _,_,_,_=>False
  | .norm,f,d,h1=>∃ h2 v,takeAll d h1=some h2∧retE P rs (mkM f) h2 = .ok v h2∧WV (pureCall h (.ok v h2)) Q
  | .ret,f,d,h1=>∃ h2 v,takeAll d h1=some h2∧retE P rs (mkM f) h2 = .ok v h2∧WV (pureCall h (.ok v h2)) Q
theorem zKw {P:Program} {rs:List ResultVar} {h:H} {Q:AV→H→Prop} {f:TF} {d:List Pos} {h1:H} (h2:H) (v:AV) (e1:takeAll d h1=some h2) (e2:retE P rs (mkM f) h2 = .ok v h2) (w:WV (pureCall h (.ok v h2)) Q):endQ P rs h Q .ret f d h1:=⟨h2,v,e1,e2,w⟩
theorem zLy {h:H} {v:AV} {l:List AO} {w:Nat} {Q:AV→H→Prop} (hf:flat v=true) (hw:h.clock≤w) (q:Q v h):WV (pureCall h (.ok v (X h l w))) Q:=zOv (pureCall_flat hw hf) q
theorem WV_ext {h:H} {v:AV} {l:List AO} {w:Nat} {Q:AV→H→Prop} (hc:(Nat.ble h.clock w && flat v)=false) (q:Q v (X h l (min h.w w))):WV (pureCall h (.ok v (X h l w))) Q:=zOv (pureCall_ext hc) q

def zKv :TF→Nat→List AV→TF
  | f,_,[]=>f
  | f,i,v :: vs=>zKv (upd f i v) (i+1) vs
theorem fillM_args : ∀ (vs:List AV) (f:TF) (i:Nat),i+vs.length≤384→fillM (mkM f) i vs=some (mkM (zKv f i vs))
  | [],_,_,_=>rfl
  | v :: vs,f,i,h=>by
    simp only [List.length_cons] at h
    unfold fillM
    rw [set_mkM _ _ _ (by omega)]
    exact fillM_args vs _ (i+1) (by omega)

theorem zMy {P:Program} {K:List Con} {g:FuncId} {args:List AV} {h:H} {Q:AV→H→Prop} {fn:Func} {body:Code} {n:Nat} {rs:List ResultVar} (hfn:P.funcs[g]? = some fn) (hb:fn.body=some body) (hn:fn.ntmps=n) (hr:fn.results.toList=rs)
    (hl:(Nat.ble args.length n && Nat.ble n 384)=true) (hfree:noK K g=true) (w:WC ⟨P,K,g,n,none⟩ body (zKv ini 0 args) [] (X h [] h.clock) (endQ P rs h Q)):WV ((om P K).call (.fn g args) h) Q:=by
  obtain ⟨j,f',d',h1,e,q⟩:=w
  have e1:=yVw body e
  subst hn hr
  have run : ∀ v h2,leaveE P fn.results.toList (.ok j (Cx.fs ⟨P,K,g,fn.ntmps,none⟩ f' d') h1) = .ok v h2→callFnE P (om P K) g args (marked h) = .ok v h2:=fun v h2 hq=>by
    unfold callFnE
    rw [hfn]
    dsimp only
    rw [hb]
    dsimp only
    rw [hl]
    dsimp only [cond]
    rw [Bool.and_eq_true] at hl
    have hl1:=Nat.le_of_ble_eq_true hl.1
    have hl2:=Nat.le_of_ble_eq_true hl.2
    rw [base_ini,fillM_args _ _ _ (by omega)]
    dsimp only
    rw [zLw,marked_eq]
    show leaveE P fn.results.toList ((om P K).code body (Cx.fs ⟨P,K,g,fn.ntmps,none⟩ (zKv ini 0 args) []) (X h [] h.clock))=_
    rw [e1];exact hq
  have fin:(∃ h2 v,takeAll d' h1=some h2∧retE P fn.results.toList (mkM f') h2 = .ok v h2∧WV (pureCall h (.ok v h2)) Q)→(∀ id,j ≠ .exit id)→WV ((om P K).call (.fn g args) h) Q:=fun ⟨h2,v,t1,t2,v',h',t3,q⟩ hj=>by
    refine ⟨v',h',xYy hfree ?_,q⟩
    show pureCall h (callFnE P (om P K) g args (marked h))=_
    rw [run v h2 ?_]
    · exact t3
    · cases j with
      | exit id=>exact absurd rfl (hj id)
      | norm=>
        show (match takeAll d' h1 with|some h=>retE P fn.results.toList (mkM f') h|none=>.no)=_
        rw [t1];exact t2
      | ret=>
        show (match takeAll d' h1 with|some h=>retE P fn.results.toList (mkM f') h|none=>.no)=_
        rw [t1];exact t2
  cases j with
  | exit id=>exact (show False from q).elim
  | norm=>exact fin q fun id e=>by cases e
  | ret=>exact fin q fun id e=>by cases e

end Go.Ev
end

section
namespace Go.Ev
section
variable {P:Program} {ω : Evs} {tm:M AV} {ty:TypeId} {h:H}
theorem x_move {x} : execE P ω tm ty (.move x) h = .of (evT tm x) h:=rfl
theorem x_assign {x} : execE P ω tm ty (.assign x) h = .of (evT tm x) h:=rfl
theorem x_pick {c a b} : execE P ω tm ty (.pick c a b) h = .of (pickE tm c a b) h:=rfl
theorem x_alloc {e} : execE P ω tm ty (.alloc e) h=allocE P e h:=rfl
theorem x_box {e x} : execE P ω tm ty (.box e x) h=on1 (evT tm x) fun v=>newPtr e v.cells h:=rfl
theorem x_build {t ps} : execE P ω tm ty (.build t ps) h = .of (buildO P tm t ps) h:=rfl
theorem xVz {t n ps} : execE P ω tm ty (.buildSlice t n ps) h=buildSliceO P tm t n ps h:=rfl
theorem x_load {t a} : execE P ω tm ty (.load t a) h=on1 (evT tm a) fun p=>.of (loadE P t p h) h:=rfl
theorem x_store {t a x} : execE P ω tm ty (.store t a x) h=on1 (evT tm a) fun p=>on1 (evT tm x) fun v=>.done (storeE P t p v h):=rfl
theorem x_nilCheck {x} : execE P ω tm ty (.nilCheck x) h=on1 (evT tm x) fun v=>.of (nilCheckE v) h:=rfl
theorem x_binOp {op t x y u} : execE P ω tm ty (.binOp op t x y u) h=on1 (evT tm x) fun a=>on1 (evT tm y) fun b=>.of (binE P op t x y a b) h:=rfl
theorem x_unOp {op t x} : execE P ω tm ty (.unOp op t x) h=on1 (evT tm x) fun a=>.of (unE P op a) h:=rfl
theorem x_convert {s d x} : execE P ω tm ty (.convert s d x) h=on1 (evT tm x) fun a=>.of (convE P s d a) h:=rfl
theorem x_makeFunc {f a b} : execE P ω tm ty (.makeFunc f a b) h=makeFuncE tm f a b h:=rfl
theorem x_makeMap {t r} : execE P ω tm ty (.makeMap t r) h=makeMapE P tm t r h:=rfl
theorem x_makeSlice {t l c} : execE P ω tm ty (.makeSlice t l c) h=on1 (evT tm l) fun l=>on1 (evT tm c) fun c=>makeSliceE P t l c h:=rfl
theorem x_slice {t x lo hi mx} : execE P ω tm ty (.slice t x lo hi mx) h = .of (slicesE P tm t x lo hi mx) h:=rfl
theorem x_fieldAddr {t x f} : execE P ω tm ty (.fieldAddr t x f) h=on1 (evT tm x) fun v=>.of (fieldAddrE P t v f) h:=rfl
theorem x_field {t x f} : execE P ω tm ty (.field t x f) h=on1 (evT tm x) fun v=>.of (fieldE P t v f) h:=rfl
theorem x_indexAddr {t x i} : execE P ω tm ty (.indexAddr t x i) h=on1 (evT tm x) fun v=>on1 (evT tm i) fun i=>.of (indexAddrE P t v i) h:=rfl
theorem x_index {t x i} : execE P ω tm ty (.index t x i) h=on1 (evT tm x) fun v=>on1 (evT tm i) fun i=>.of (indexE P t v i) h:=rfl
theorem x_lookup {t x k ok} : execE P ω tm ty (.lookup t x k ok) h=on1 (evT tm x) fun m=>on1 (evT tm k) fun k=>.of (lookupE P t m k ok h) h:=rfl
theorem x_mapUpdate {t m k x} : execE P ω tm ty (.mapUpdate t m k x) h=on1 (evT tm m) fun m=>on1 (evT tm k) fun k=>on1 (evT tm x) fun v=>.done (updateE P t m k v h):=rfl
theorem x_extract {t i} : execE P ω tm ty (.extract t i) h=on1 (evT tm t) fun v=>.of (extractE v i) h:=rfl
theorem x_callB {b args ats} : execE P ω tm ty (.call ⟨.builtin b,args,ats⟩) h=match evL tm args.toList with|some as=>builtinE P b ats.toList ty as h|none=>.no:=by
  show callE P ω tm ty ⟨.builtin b,args,ats⟩ h=_
  unfold callE
  cases evL tm args.toList <;> rfl
theorem x_callF {g args ats} : execE P ω tm ty (.call ⟨.value (.func g),args,ats⟩) h=match evL tm args.toList with|some as=>bif plainB P g then ω.call (.fn g (as++[])) h else .no|none=>.no:=by
  show callE P ω tm ty ⟨.value (.func g),args,ats⟩ h=_
  unfold callE
  cases evL tm args.toList with
  | none=>rfl
  | some as=>
    show (bif plainB P g then ω.call (.fn g ([]++(as++[]))) h else .no)=_
    rfl
theorem x_callT {t args ats} : execE P ω tm ty (.call ⟨.value (.tmp t),args,ats⟩) h=match evL tm args.toList with|some as=>on1 (tm.get t) (fun f=>callV P ω f as h)|none=>.no:=by
  show callE P ω tm ty ⟨.value (.tmp t),args,ats⟩ h=_
  unfold callE
  cases evL tm args.toList with
  | none=>rfl
  | some as=>
    show (match evT tm (.tmp t) with|some f=>callV P ω f as h|none=>.no)=on1 (tm.get t) (fun f=>callV P ω f as h)
    show (match tm.get t with|some f=>callV P ω f as h|none=>.no)=on1 (tm.get t) (fun f=>callV P ω f as h)
    cases tm.get t <;> rfl
theorem xRy {g:FuncId} {first cap args:List AV} : callV P ω (.fn g first cap) args h=bif plainB P g then ω.call (.fn g (first++(args++cap))) h else .no:=rfl
theorem callV_yld {id:Pos} {args:List AV} : callV P ω (.yld id) args h = ω.call (.yld id args) h:=rfl

theorem on1_ok {v:AV} {f:AV→RV} : on1 (some v) f=f v:=rfl
theorem of_ok {v:AV} : RV.of (some v) h = .ok v h:=rfl
theorem done_ok :RV.done (some h) = .ok (.tup []) h:=rfl
theorem zFv {f:TF} {t:Nat} (ht:t<384):evT (mkM f) (.tmp t)=some (f t):=xFy f t ht
theorem get_tmp {f:TF} {t:Nat} (ht:t<384):M.get (mkM f) t=some (f t):=xFy f t ht
theorem evT_int {k:IntKind} {n:Int} : evT tm (.const (.int k n))=some (.int k n):=rfl
theorem evT_bool {b:Bool} : evT tm (.const (.bool b))=some (.bool b):=rfl
theorem evT_str {s:ByteArray} : evT tm (.const (.string s))=some (.str s):=rfl
theorem evT_nils :evT tm (.const (.slice none 0 0))=some .nils:=rfl
theorem evT_nilm :evT tm (.const (.map none))=some .nilm:=rfl
theorem evT_nilp :evT tm (.const (.pointer none))=some .nilp:=rfl
theorem evT_nilf :evT tm (.const .nilFunc)=some .nilf:=rfl
theorem evT_func {g:FuncId} : evT tm (.func g)=some (.fn g [] []):=rfl
theorem zAz (f:TF) (k:Nat) (v:AV) (j:Nat):upd f k v j=if j=k then v else f j:=rfl
theorem evL_nil :evL tm []=some []:=rfl
theorem evL_cons' {x:Operand} {xs:List Operand} : evL tm (x :: xs)=match evT tm x with|some a=>(match evL tm xs with|some as=>some (a :: as)|none=>none)|none=>none:=rfl
theorem evParts_nil :evParts tm []=some []:=rfl
theorem xZv {i:Nat} {x:Operand} {xs:List (Nat × Operand)} : evParts tm ((i,x) :: xs)=match evT tm x with|some a=>(match evParts tm xs with|some as=>some ((i,a) :: as)|none=>none)|none=>none:=rfl

theorem cells_bool {b} : AV.cells (.bool b)=[.bool b]:=rfl
theorem cells_int {k n} : AV.cells (.int k n)=[.int k n]:=rfl
theorem cells_str {s} : AV.cells (.str s)=[.str s]:=rfl
theorem cells_ptr {a b} : AV.cells (.ptr a b)=[.ptr a b]:=rfl
theorem cells_nilp :AV.cells .nilp=[.nilp]:=rfl
theorem cells_sl {a b c d e} : AV.cells (.sl a b c d e)=[.sl a b c d e]:=rfl
theorem cells_nils :AV.cells .nils=[.nils]:=rfl
theorem cells_map {a} : AV.cells (.map a)=[.map a]:=rfl
theorem cells_nilm :AV.cells .nilm=[.nilm]:=rfl
theorem cells_fn {a b c} : AV.cells (.fn a b c)=[.fn a b c]:=rfl
theorem cells_nilf :AV.cells .nilf=[.nilf]:=rfl
theorem cells_agg {cs} : AV.cells (.agg cs)=cs:=rfl

theorem asPtr_ptr {a b} : asPtr (.ptr a b)=some (a,b):=rfl
theorem asSl_sl {a b c d e} : asSl (.sl a b c d e)=some (a,b,c):=rfl
theorem zDx {b} : asB (.bool b)=some b:=rfl
theorem zGz {l} : asB (.tup l)=none:=rfl
theorem asTup_tup {l} : asTup (.tup l)=some l:=rfl
theorem xDw {n} : asI64 (.int .i64 n)=some n:=rfl
theorem yXv {k} {n:Nat} : toNatE (.int k (n:Int))=some n:=rfl
theorem yVv {k:IntKind} {n:Int} (hn:0≤n):toNatE (.int k n)=some n.toNat:=by
  obtain ⟨m,rfl⟩:=Int.eq_ofNat_of_zero_le hn
  rfl
theorem xRz {m e} : cellsOf (.cells m e)=some m.get:=rfl
theorem cellsOf_ro {m} : cellsOf (.ro m)=some m:=rfl
theorem xHw {m e} : cellsE (.cells m e)=some (m,e):=rfl
theorem oneB_bool {b} : oneB (.bool b)=true:=rfl
theorem oneB_int {k n} : oneB (.int k n)=true:=rfl
theorem oneB_str {s} : oneB (.str s)=true:=rfl
theorem oneB_ptr {a b} : oneB (.ptr a b)=true:=rfl
theorem oneB_nilp :oneB .nilp=true:=rfl
theorem oneB_sl {a b c d e} : oneB (.sl a b c d e)=true:=rfl
theorem oneB_nils :oneB .nils=true:=rfl
theorem oneB_map {a} : oneB (.map a)=true:=rfl
theorem oneB_nilm :oneB .nilm=true:=rfl
theorem oneB_fn {a b c} : oneB (.fn a b c)=true:=rfl
theorem oneB_nilf :oneB .nilf=true:=rfl

theorem loadE_ptr {t id off} : loadE P t (.ptr id off) h=match isAggB P t with|some b=>bif b then loadAgg id off (sizeE P t) h else load1 id off h|none=>none:=rfl
theorem storeE_ptr {t id off v} : storeE P t (.ptr id off) v h=storeCs id off (sizeE P t) v.cells h:=rfl
theorem xVy {id off n cs} : storeCs id off (some n) cs h=bif Nat.beq cs.length n then storeAll id off cs h else none:=rfl
theorem xVw {id off v} : storeAll id off [v] h=store1 id off v h:=rfl
theorem xVx {id off a b l} : storeAll id off (a :: b :: l) h=writeCells id off (a :: b :: l) h:=rfl
theorem xMz {t id off f} : fieldAddrE P t (.ptr id off) f=addOff id off (fieldOff P t f):=rfl
theorem addOff_some {id off k} : addOff id off (some k)=some (.ptr id (off+k)):=by show forceNat (Nat.add off k) (fun o=>some (AV.ptr id o))=_;rw [zLw];rfl
theorem xNy {len n id off i} (hi:i<len):indexAt (some len) n (.ptr id off) i=some (.ptr id (off+i * n)):=by
  show (bif Nat.ble (Nat.succ i) len then forceNat (Nat.add off (Nat.mul i n)) fun o=>some (AV.ptr id o) else none)=_
  rw [Nat.ble_eq_true_of_le hi,zLw];rfl
theorem yVz {n id off len cap esz i} (hi:i<len):indexAt none n (.sl id off len cap esz) i=some (.ptr id (off+i * n)):=by
  show (bif Nat.ble (Nat.succ i) len then forceNat (Nat.add off (Nat.mul i n)) fun o=>some (AV.ptr id o) else none)=_
  rw [Nat.ble_eq_true_of_le hi,zLw];rfl
theorem yQv {t x i} : indexAddrE P t x i=match toNatE i with|some i=>(match idxKind P t with|some (k,n)=>indexAt k n x i|none=>none)|none=>none:=rfl
theorem xZw {l i} : extractE (.tup l) i=l[i]?:=by show lget l i=_;exact xGv l i
theorem nilCheck_fn {a b c} : nilCheckE (.fn a b c)=some (.fn a b c):=rfl
theorem xYw {a b} : nilCheckE (.ptr a b)=some (.ptr a b):=rfl
theorem xYx {a} : nilCheckE (.yld a)=some (.yld a):=rfl
theorem pickE_def {c a b} : pickE tm c a b=match evT tm c with|some v=>(match asB v with|some t=>evT tm (bif t then a else b)|none=>none)|none=>none:=rfl
theorem allocE_def {e} : allocE P e h=match zeroE P e with|some z=>newPtr e z.cells h|none=>.no:=rfl

theorem zFx {h0:H} (wf:Wf h0) {e cs l w} : newPtr e cs (X h0 l w) = .ok (.ptr (nx h0 l.length) 0) (X h0 (l++[.cells (zBz cs) e]) w):=by
  unfold newPtr newCells;rw [xJy wf]
theorem load1_of {id off m o} (hg:getObj id h=some o) (hm:cellsOf o=some m):load1 id off h=m off:=by
  unfold load1;rw [hg];dsimp only;rw [hm]
theorem xXz {id off n m o} (hg:getObj id h=some o) (hm:cellsOf o=some m):readCells h id off n=readM m n off:=by
  unfold readCells;rw [hg];dsimp only;rw [hm]
theorem writeCells_new {h0:H} {l w k off vs cs e} (wf:Wf h0) (hk:l[k]? = some (.cells (zBz cs) e)) (ho:off+vs.length≤cs.length) (h1:allOne vs=true):writeCells (nx h0 k) off vs (X h0 l w)=some (X h0 (l.set k (.cells (zBz (splice cs off vs)) e)) (min (h0.clock+k) w)):=by
  unfold writeCells
  rw [zPx wf,hk]
  dsimp only
  rw [xHw]
  dsimp only
  rw [h1]
  dsimp only [cond]
  rw [xNw _ _ _ ho]
  dsimp only
  exact yRz l w k _ (List.getElem?_eq_some_iff.1 hk).1
noncomputable def cellAt :Option AO→Nat→Option AV
  | some (.cells m _),off=>m.get off
  | some (.ro m),off=>m off
  | _,_=>none
noncomputable def aggAt :Option AO→Nat→Nat→Option AV
  | some (.cells m _),off,n=>(match readM m.get n off with|some cs=>some (.agg cs)|none=>none)
  | some (.ro m),off,n=>(match readM m n off with|some cs=>some (.agg cs)|none=>none)
  | _,_,_=>none
noncomputable def storeAt :Option AO→Nat→AV→Option AO
  | some (.cells m e),off,v=>bif oneB v then (match m.set off v with|some m'=>some (.cells m' e)|none=>none) else none
  | _,_,_=>none
noncomputable def writeAt :Option AO→Nat→List AV→Option AO
  | some (.cells m e),off,vs=>bif allOne vs then (match fillM m off vs with|some m'=>some (.cells m' e)|none=>none) else none
  | _,_,_=>none
theorem yXz {cs e off} : cellAt (some (.cells (zBz cs) e)) off=cs[off]?:=yYx cs off
theorem cellAt_ro {f off} : cellAt (some (.ro f)) off=f off:=rfl
theorem yWx {cs e off n} (h0:0<n):aggAt (some (.cells (zBz cs) e)) off n=if off+n≤cs.length then some (.agg ((cs.drop off).take n)) else none:=by
  show (match readM (zBz cs).get n off with|some cs=>some (AV.agg cs)|none=>none)=_
  by_cases hn:off+n≤cs.length
  · rw [yZy _ _ _ hn,if_pos hn]
  · rw [if_neg hn]
    cases hr:readM (zBz cs).get n off with
    | none=>rfl
    | some vs=>
      exfalso
      obtain ⟨h1,h2⟩:=yZz hr
      cases n with
      | zero=>exact absurd h0 (Nat.lt_irrefl 0)
      | succ m=>
        have:=h2 m (vs[m]'(by omega)) (by simp)
        rw [yYx] at this
        have:=(List.getElem?_eq_some_iff.1 this).1
        omega
theorem zHx {h0:H} (wf:Wf h0) {l w k off} : load1 (nx h0 k) off (X h0 l w)=cellAt l[k]? off:=by
  unfold load1
  rw [zPx wf]
  cases l[k]? with
  | none=>rfl
  | some o=>cases o <;> rfl
theorem zBv {h0:H} (wf:Wf h0) {l w k off n} : loadAgg (nx h0 k) off (some n) (X h0 l w)=aggAt l[k]? off n:=by
  unfold loadAgg readCells
  dsimp only
  rw [zPx wf]
  cases l[k]? with
  | none=>rfl
  | some o=>cases o <;> rfl
theorem yVx {cs e off v} : storeAt (some (.cells (zBz cs) e)) off v=bif oneB v then (if off<cs.length then some (.cells (zBz (cs.set off v)) e) else none) else none:=by
  show (bif oneB v then (match (zBz cs).set off v with|some m'=>some (AO.cells m' e)|none=>none) else none)=_
  by_cases ho:off<cs.length
  · rw [xNz _ _ _ ho,if_pos ho]
  · rw [if_neg ho]
    cases hs:(zBz cs).set off v with
    | none=>rfl
    | some m'=>
      exfalso
      obtain ⟨_,_,b,hb⟩:=M.set_some hs
      rw [yYx] at hb
      exact ho (List.getElem?_eq_some_iff.1 hb).1
theorem zFw {h0:H} (wf:Wf h0) {l w k off v} : store1 (nx h0 k) off v (X h0 l w)=match storeAt l[k]? off v with|some o=>some (X h0 (l.set k o) (min (h0.clock+k) w))|none=>none:=by
  unfold store1
  rw [zPx wf]
  cases hk:l[k]? with
  | none=>rfl
  | some o=>
    cases o with
    | cells m e=>
      show (bif oneB v then (match m.set off v with|some m'=>setObj (nx h0 k) (.cells m' e) (X h0 l w)|none=>none) else none)=_
      show _=match (bif oneB v then (match m.set off v with|some m'=>some (AO.cells m' e)|none=>none) else none) with|some o=>some (X h0 (l.set k o) (min (h0.clock+k) w))|none=>none
      cases oneB v with
      | false=>rfl
      | true=>
        dsimp only [cond]
        cases m.set off v with
        | none=>rfl
        | some m'=>exact yRz l w k _ (List.getElem?_eq_some_iff.1 hk).1
    | _=>rfl
theorem zAy {h0:H} (wf:Wf h0) {l w k off vs} : writeCells (nx h0 k) off vs (X h0 l w)=match writeAt l[k]? off vs with|some o=>some (X h0 (l.set k o) (min (h0.clock+k) w))|none=>none:=by
  unfold writeCells
  rw [zPx wf]
  cases hk:l[k]? with
  | none=>rfl
  | some o=>
    cases o with
    | cells m e=>
      show (bif allOne vs then (match fillM m off vs with|some m'=>setObj (nx h0 k) (.cells m' e) (X h0 l w)|none=>none) else none)=_
      show _=match (bif allOne vs then (match fillM m off vs with|some m'=>some (AO.cells m' e)|none=>none) else none) with|some o=>some (X h0 (l.set k o) (min (h0.clock+k) w))|none=>none
      cases allOne vs with
      | false=>rfl
      | true=>
        dsimp only [cond]
        cases fillM m off vs with
        | none=>rfl
        | some m'=>exact yRz l w k _ (List.getElem?_eq_some_iff.1 hk).1
    | _=>rfl
theorem fillM_not : ∀ (vs:List AV) (v:AV) (cs:List AV) (off:Nat),¬ off+(v :: vs).length≤cs.length→fillM (zBz cs) off (v :: vs)=none
  | vs,v,cs,off,h=>by
    unfold fillM
    by_cases ho:off<cs.length
    · rw [xNz _ _ _ ho]
      dsimp only
      cases vs with
      | nil=>simp at h;omega
      | cons u us=>exact fillM_not us u (cs.set off v) (off+1) (by simp at h ⊢;omega)
    · cases hs:(zBz cs).set off v with
      | none=>rfl
      | some m'=>
        exfalso
        obtain ⟨_,_,b,hb⟩:=M.set_some hs
        rw [yYx] at hb
        exact ho (List.getElem?_eq_some_iff.1 hb).1
theorem yVy {cs e off v vs} : writeAt (some (.cells (zBz cs) e)) off (v :: vs)=bif allOne (v :: vs) then (if off+(v :: vs).length≤cs.length then some (.cells (zBz (splice cs off (v :: vs))) e) else none) else none:=by
  show (bif allOne (v :: vs) then (match fillM (zBz cs) off (v :: vs) with|some m'=>some (AO.cells m' e)|none=>none) else none)=_
  by_cases ho:off+(v :: vs).length≤cs.length
  · rw [xNw _ _ _ ho,if_pos ho]
  · rw [fillM_not _ _ _ _ ho,if_neg ho]
theorem xSz {cs vs:List AV} {off:Nat} : splice cs off vs=cs.take off++vs++cs.drop (off+vs.length):=rfl
theorem yWw {α : Type} {G l:List α} : (G++l)[G.length]? = l[0]?:=by rw [List.getElem?_append_right (Nat.le_refl _),Nat.sub_self]
theorem xOz {α : Type} {G l:List α} {k:Nat} : (G++l)[G.length+k]? = l[k]?:=by rw [List.getElem?_append_right (Nat.le_add_right _ _),Nat.add_sub_cancel_left]
theorem xWz {α : Type} {G l:List α} {o : α} : (G++l).set G.length o=G++l.set 0 o:=by rw [List.set_append_right _ _ (Nat.le_refl _),Nat.sub_self]
theorem xEz {α : Type} {G l:List α} {k:Nat} {o : α} : (G++l).set (G.length+k) o=G++l.set k o:=by rw [List.set_append_right _ _ (Nat.le_add_right _ _),Nat.add_sub_cancel_left]
theorem allOne_nil :allOne []=true:=rfl
theorem yUy {v vs} : allOne (v :: vs)=bif oneB v then allOne vs else false:=rfl

theorem yXw {op t x y m n v} (hv:bin64E op m n=some v):binE P op t x y (.int .i64 m) (.int .i64 n)=some v:=by
  unfold binE bin2;rw [xDw,xDw];dsimp only;rw [hv];rfl
theorem b_add {t x y m n} : binE P .add t x y (.int .i64 m) (.int .i64 n)=some (.int .i64 (IntKind.i64.wrap (m+n))):=yXw (xQz _)
theorem b_sub {t x y m n} : binE P .sub t x y (.int .i64 m) (.int .i64 n)=some (.int .i64 (IntKind.i64.wrap (m - n))):=yXw (xQz _)
theorem b_mul {t x y m n} : binE P .mul t x y (.int .i64 m) (.int .i64 n)=some (.int .i64 (IntKind.i64.wrap (m * n))):=yXw (xQz _)
theorem b_eql {t x y m n} : binE P .eql t x y (.int .i64 m) (.int .i64 n)=some (.bool (decide (m=n))):=yXw (by
  show some (AV.bool (eqInt m n))=_;rw [wAv];by_cases h:m=n <;> simp [h])
theorem b_neq {t x y m n} : binE P .neq t x y (.int .i64 m) (.int .i64 n)=some (.bool (!decide (m=n))):=yXw (by
  show some (AV.bool (!eqInt m n))=_;rw [wAv];by_cases h:m=n <;> simp [h])
theorem b_lss {t x y m n} : binE P .lss t x y (.int .i64 m) (.int .i64 n)=some (.bool (decide (m<n))):=yXw (by
  show some (AV.bool (!leInt n m))=_;rw [xBx];by_cases h:m<n <;> simp [h] <;> omega)
theorem b_leq {t x y m n} : binE P .leq t x y (.int .i64 m) (.int .i64 n)=some (.bool (decide (m≤n))):=yXw (by
  show some (AV.bool (leInt m n))=_;rw [xBx])
theorem b_gtr {t x y m n} : binE P .gtr t x y (.int .i64 m) (.int .i64 n)=some (.bool (decide (n<m))):=yXw (by
  show some (AV.bool (!leInt m n))=_;rw [xBx];by_cases h:n<m <;> simp [h] <;> omega)
theorem b_geq {t x y m n} : binE P .geq t x y (.int .i64 m) (.int .i64 n)=some (.bool (decide (n≤m))):=yXw (by
  show some (AV.bool (leInt n m))=_;rw [xBx])
theorem unE_not {b} : unE P .not (.bool b)=some (.bool (!b)):=by
  unfold unE
  show pureVal P (Op.unary .not (.bool b))=_
  cases b <;> rfl
theorem min_ck (c k:Nat):min (c+k) c=c:=by omega
theorem min_cc (c k l:Nat):min c (min (c+k) l)=min c l:=by omega
theorem min_cl (c k:Nat):min c (c+k)=c:=by omega

theorem ret1 {t:Nat} {f:TF} (ht:t<384):retE P [.tmp t] (mkM f) h = .ok (f t) h:=by
  simp only [retE,resultsE,resultE,xFy _ _ ht]
theorem ret2 {t u:Nat} {f:TF} (ht:t<384) (hu:u<384):retE P [.tmp t,.tmp u] (mkM f) h = .ok (.tup [f t,f u]) h:=by
  simp only [retE,resultsE,resultE,xFy _ _ ht,xFy _ _ hu]
end
end Go.Ev
end

section
namespace Go.Ev
section
variable {P:Program}

def Sl (h:H) (a:AV) (m len:Nat) (cells:List AV):Prop:=
  cells.length=len * m∧((a = .nils∧len=0) ∨ ∃ id off cap esz o cs,a = .sl id off len cap esz∧getObj id h=some o∧cellsOf o=some cs ∧ ∀ k,k<len * m→cs (off+k)=cells[k]?)

theorem Sl.up {h:H} (wf:Wf h) {a:AV} {m len:Nat} {cells:List AV} (s:Sl h a m len cells) (l:List AO) (w:Nat):Sl (X h l w) a m len cells:=by
  obtain ⟨hl,⟨ha,h0⟩|⟨id,off,cap,esz,o,cs,ha,hg,hc,hk⟩⟩:=s
  · exact ⟨hl,.inl ⟨ha,h0⟩⟩
  · exact ⟨hl,.inr ⟨id,off,cap,esz,o,cs,ha,xUx wf hg l w,hc,hk⟩⟩
theorem Sl.new {h:H} (wf:Wf h) {l:List AO} {w k m len:Nat} {cap:Option Nat} {esz e:Nat} {cells:List AV} (hl:cells.length=len * m) (hk:l[k]? = some (.cells (zBz cells) e)):Sl (X h l w) (.sl (nx h k) 0 len cap esz) m len cells:=
  ⟨hl,.inr ⟨_,0,cap,esz,_,_,rfl,by rw [zPx wf];exact hk,rfl,fun k _=>by rw [Nat.zero_add,yYx]⟩⟩
theorem Sl.nil (h:H) (m:Nat):Sl h .nils m 0 []:=⟨by simp,.inl ⟨rfl,rfl⟩⟩

theorem Sl.len {h h':H} {a:AV} {m len:Nat} {cells:List AV} (s:Sl h a m len cells) {t e:TypeId} (hu:P.underlying t=some (.slice e)):lenE P t a h'=some (.int .i64 (len:Int)):=by
  obtain ⟨_,⟨rfl,rfl⟩|⟨id,off,cap,esz,o,cs,rfl,_,_,_⟩⟩:=s
  · unfold lenE;rw [hu];rfl
  · unfold lenE;rw [hu];rfl

theorem Sl.at {h:H} (wf:Wf h) {a:AV} {m len:Nat} {cells:List AV} (s:Sl h a m len cells) {i:Nat} (hi:i<len) {t:TypeId} (hk:idxKind P t=some (none,m)) :
    ∃ id off,indexAddrE P t a (.int .i64 (i:Int))=some (.ptr id off) ∧ ∀ l w,(∀ k,k<m→load1 id (off+k) (X h l w)=cells[i * m+k]?)∧loadAgg id off (some m) (X h l w)=some (.agg ((cells.drop (i * m)).take m)):=by
  obtain ⟨hl,⟨rfl,rfl⟩|⟨id,off,cap,esz,o,cs,rfl,hg,hc,hx⟩⟩:=s
  · exact absurd hi (Nat.not_lt_zero _)
  · have him:i * m+m≤len * m:=by rw [← Nat.succ_mul];exact Nat.mul_le_mul_right m hi
    refine ⟨id,off+i * m,?_,fun l w=>⟨fun k hkm=>?_,?_⟩⟩
    · rw [yQv,yXv];dsimp only;rw [hk];dsimp only;exact yVz hi
    · rw [load1_of (xUx wf hg l w) hc,Nat.add_assoc]
      exact hx _ (by omega)
    · unfold loadAgg
      dsimp only
      rw [xXz (xUx wf hg l w) hc]
      have hread : ∀ (n q:Nat),q+n≤m→readM cs n (off+i * m+q)=some ((cells.drop (i * m+q)).take n):=by
        intro n
        induction n with
        | zero=>intro q _;simp [readM]
        | succ n ih=>
          intro q hq2
          unfold readM
          have h1:=hx (i * m+q) (by omega)
          rw [List.getElem?_eq_getElem (l:=cells) (by omega),← Nat.add_assoc] at h1
          rw [h1]
          dsimp only
          have h2:=ih (q+1) (by omega)
          rw [show Nat.succ (off+i * m+q)=off+i * m+(q+1) from rfl,h2,List.drop_eq_getElem_cons (i:=i * m+q) (by omega)]
          rfl
      have hread0:=hread m 0 (by omega)
      rw [Nat.add_zero,Nat.add_zero] at hread0
      rw [hread0]
theorem Sl.at1 {h:H} (wf:Wf h) {a:AV} {len:Nat} {cells:List AV} (s:Sl h a 1 len cells) {i:Nat} (hi:i<len) {t:TypeId} (hk:idxKind P t=some (none,1)) :
    ∃ id off,indexAddrE P t a (.int .i64 (i:Int))=some (.ptr id off) ∧ ∀ l w,load1 id off (X h l w)=cells[i]?:=by
  obtain ⟨id,off,h1,h2⟩:=s.at wf hi hk
  exact ⟨id,off,h1,fun l w=>by have:=(h2 l w).1 0 (Nat.lt_succ_self 0);simpa using this⟩

theorem Sl.from {h:H} {a:AV} {m len:Nat} {cells:List AV} (s:Sl h a m len cells) {k:Nat} (hk:k≤len) {t e:TypeId} (hu:P.underlying t=some (.slice e)) (hz:sizeE P e=some m) (hcap : ∀ id off l esz,a ≠ .sl id off l none esz) (hesz : ∀ id off l c esz,a = .sl id off l (some c) esz→l≤c) :
    ∃ b,sliceE P t (reszT P t a) (some k) none none=some b∧Sl h b m (len - k) (cells.drop (k * m)):=by
  obtain ⟨hl,⟨rfl,rfl⟩|⟨id,off,cap,esz,o,cs,rfl,hg,hc,hx⟩⟩:=s
  · have hk0:k=0:=by omega
    subst hk0
    refine ⟨.nils,?_,by simp at hl;simp [hl];exact Sl.nil h m⟩
    have hr:reszT P t .nils = .nils:=by unfold reszT;rw [hu];dsimp only;rw [hz];rfl
    rw [hr]
    unfold sliceE;rw [hu];dsimp only;rw [hz];rfl
  · cases cap with
    | none=>exact absurd rfl (hcap id off len esz)
    | some c=>
      have hlc:=hesz id off len c esz rfl
      have hr:reszT P t (.sl id off len (some c) esz) = .sl id off len (some c) m:=by unfold reszT;rw [hu];dsimp only;rw [hz];rfl
      rw [hr]
      clear hr
      have hb:boundsE len (some c) (some k) none none=some (k,len,some c):=by
        unfold boundsE
        show (bif Nat.ble len c && Nat.ble k len then some (k,len,some c) else none)=_
        rw [Nat.ble_eq_true_of_le hlc,Nat.ble_eq_true_of_le hk];rfl
      refine ⟨.sl id (bif Nat.beq c k then off else off+k * m) (len - k) (some (c - k)) m,?_,?_,.inr ⟨_,_,_,_,o,cs,rfl,hg,hc,fun j hj=>?_⟩⟩
      · unfold sliceE;rw [hu];dsimp only;rw [hz];dsimp only
        rw [show Nat.beq m m=true from Nat.beq_refl m,hb];rfl
      · rw [List.length_drop,hl,Nat.sub_mul]
      · have hmul:k * m≤len * m:=Nat.mul_le_mul_right _ hk
        rw [List.getElem?_drop]
        have hj':k * m+j<len * m:=by rw [Nat.sub_mul] at hj;omega
        have:=hx (k * m+j) hj'
        rw [← this]
        cases hbq:Nat.beq c k with
        | true=>
          have:=Nat.eq_of_beq_eq_true hbq
          subst this
          have:len=c:=by omega
          subst this
          omega
        | false=>show cs (off+k * m+j)=_;rw [Nat.add_assoc]

variable {ty:TypeId} {h:H} {tm:M AV}
theorem bi_len {t x} : builtinE P .len [t] ty [x] h = .of (lenE P t x h) h:=rfl
theorem bi_append {t u s x} : builtinE P .append [t,u] ty [s,x] h=bif notInt P u then appendE P t (reszT P t s) (reszT P t x) h else .no:=rfl
theorem bi_copy {t u d x} : builtinE P .copy [t,u] ty [d,x] h=copyE P t d (reszT P t x) h:=rfl
theorem bi_max {t u:TypeId} {a b:Int} : builtinE P .max [t,u] ty [.int .i64 a,.int .i64 b] h = .ok (.int .i64 (max a b)) h:=by
  show RV.of (pureVal P (Builtin.max_ #[t,u] ty #[.int .i64 a,.int .i64 b])) h=_
  have e:pureVal P (Builtin.max_ #[t,u] ty #[.int .i64 a,.int .i64 b])=some (.int .i64 (max a b)):=by
    show (match abs0 (.int .i64 (if b > a then b else a)) with|some a=>force0 a|none=>none)=_
    show force0 (.int .i64 (if b > a then b else a))=_
    rw [xDx]
    congr 2
    split <;> omega
  rw [e];rfl
theorem bi_min {t u:TypeId} {a b:Int} : builtinE P .min [t,u] ty [.int .i64 a,.int .i64 b] h = .ok (.int .i64 (min a b)) h:=by
  show RV.of (pureVal P (Builtin.min_ #[t,u] ty #[.int .i64 a,.int .i64 b])) h=_
  have e:pureVal P (Builtin.min_ #[t,u] ty #[.int .i64 a,.int .i64 b])=some (.int .i64 (min a b)):=by
    show (match abs0 (.int .i64 (if b<a then b else a)) with|some a=>force0 a|none=>none)=_
    show force0 (.int .i64 (if b<a then b else a))=_
    rw [xDx]
    congr 2
    split <;> omega
  rw [e];rfl
theorem unE_neg {a:Int} : unE P .neg (.int .i64 a)=some (.int .i64 (IntKind.i64.wrap (0 - a))):=by
  show (match abs0 (.int .i64 (IntKind.i64.wrap (0 - a))) with|some a=>force0 a|none=>none)=_
  show force0 (.int .i64 (IntKind.i64.wrap (0 - a)))=_
  rw [xDx]
theorem ble_dec (a b:Nat):Nat.ble a b=decide (a≤b):=by
  by_cases h:a≤b
  · rw [Nat.ble_eq_true_of_le h,decide_eq_true h]
  · rw [decide_eq_false h]
    cases hb:Nat.ble a b with
    | false=>rfl
    | true=>exact absurd (Nat.le_of_ble_eq_true hb) h
theorem beq_dec (a b:Nat):Nat.beq a b=decide (a=b):=by
  by_cases h:a=b
  · subst h;rw [decide_eq_true rfl];exact Nat.beq_refl a
  · rw [decide_eq_false h]
    cases hb:Nat.beq a b with
    | false=>rfl
    | true=>exact absurd (Nat.eq_of_beq_eq_true hb) h
theorem slicesE_def {t:TypeId} {x:Operand} {lo hi mx:Option Operand} : slicesE P tm t x lo hi mx=match evT tm x,optNat tm lo,optNat tm hi,optNat tm mx with
  | some v,some lo,some hi,some mx=>sliceE P t (reszT P t v) lo hi mx
  | _,_,_,_=>none:=rfl
theorem optNat_none :optNat tm none=some none:=rfl
theorem optNat_def {x:Operand} : optNat tm (some x)=match evT tm x with|some v=>(match toNatE v with|some n=>some (some n)|none=>none)|none=>none:=rfl
theorem xHv {t n ps} : buildSliceO P tm t n ps h=match evParts tm ps.toList with|some parts=>buildSliceE P t n parts h|none=>.no:=rfl
theorem buildO_def {t ps} : buildO P tm t ps=match evParts tm ps.toList with|some parts=>buildE P t parts|none=>none:=rfl
theorem fillE_nil {pl:Nat→Option (Nat × Nat)} {cs:List AV} : fillE pl cs []=some cs:=rfl
theorem fillE_cons {pl:Nat→Option (Nat × Nat)} {cs:List AV} {i:Nat} {v:AV} {rest:List (Nat × AV)} : fillE pl cs ((i,v) :: rest)=match pl i with|some (off,size)=>bif Nat.beq v.cells.length size && Nat.ble (off+v.cells.length) cs.length then fillE pl (layOver cs off v.cells) rest else none|none=>none:=rfl
theorem layOver_def {cs vs:List AV} {off:Nat} : layOver cs off vs=cs.take off++vs++cs.drop (off+vs.length):=rfl
theorem wBv {z:List AV} : zerosE z 0=[]:=rfl
theorem zerosE_succ {z:List AV} {n:Nat} : zerosE z (n+1)=z++zerosE z n:=rfl
theorem zAv {h0:H} (wf:Wf h0) {e:TypeId} {cs:List AV} {len cap n:Nat} {l:List AO} {w:Nat} : newSlice e cs len cap n (X h0 l w) = .ok (.sl (nx h0 l.length) 0 len (some cap) n) (X h0 (l++[.cells (zBz cs) e]) w):=by
  unfold newSlice newCells;rw [xJy wf]
end
end Go.Ev
namespace Go.Ev
theorem zCw {p:Prop} [Decidable p] {Q:AV→H→Prop} {h:H} (a:p→Q (.bool true) h) (b : ¬ p→Q (.bool false) h):Q (.bool (decide p)) h:=by
  by_cases hp:p
  · rw [decide_eq_true hp];exact a hp
  · rw [decide_eq_false hp];exact b hp
theorem zBw {p:Prop} [Decidable p] {Q:AV→H→Prop} {h:H} (a:p→Q (.bool false) h) (b : ¬ p→Q (.bool true) h):Q (.bool (!decide p)) h:=by
  by_cases hp:p
  · rw [decide_eq_true hp];exact a hp
  · rw [decide_eq_false hp];exact b hp
theorem ySx {r:RV} {v0:AV} {h0:H} (w:WV r fun v h=>v=v0∧h=h0):r = .ok v0 h0:=by
  obtain ⟨v,h,e,rfl,rfl⟩:=w;exact e
end Go.Ev
end

section
namespace Go.Ev
section
variable {P:Program}
structure El (P:Program) (e:TypeId) (size bytes:Nat) (z:AV):Prop where
  info:(P.info? e).map (·.bytes)=some bytes
  zero:zeroE P e=some z
  cells:z.cells.length=size

theorem growE_X {h0:H} (wf:Wf h0) {e size bytes:Nat} {z:AV} (E:El P e size bytes z) {need:Nat} {cs:List AV} {l:List AO} {w:Nat} (hn:need≤10000000) (hb:bytes≤100000) (hc:cs.length=need * size) :
    growE P e need size cs (X h0 l w) = .ok (.sl (nx h0 l.length) 0 need none size) (X h0 (l++[.cells (zBz cs) e]) w):=by
  unfold growE
  cases hi:P.info? e with
  | none=>have:=E.info;rw [hi] at this;cases this
  | some i=>
    have hbi:i.bytes=bytes:=by have:=E.info;rw [hi] at this;exact Option.some.inj this
    rw [E.zero]
    dsimp only
    have c1:(2 * need+1000) * i.bytes≤281474976710656:=by
      rw [hbi]
      have:(2 * need+1000) * bytes≤20001000 * 100000:=Nat.mul_le_mul (by omega) hb
      omega
    rw [Nat.ble_eq_true_of_le c1,Nat.ble_eq_true_of_le (show need≤1073741824 by omega),E.cells,hc]
    rw [show Nat.beq size size=true from Nat.beq_refl size,show Nat.beq (need * size) (need * size)=true from Nat.beq_refl _]
    show (match newCells e cs (X h0 l w) with|some (id,h)=>RV.ok (.sl id 0 need none size) h|none=>.no)=_
    unfold newCells
    rw [xJy wf]

theorem xFx {h0:H} (wf:Wf h0) {t e size bytes:Nat} {z x:AV} (hu:P.underlying t=some (.slice e)) (hz:sizeE P e=some size) (E:El P e size bytes z) {n:Nat} {new:List AV} {l:List AO} {w:Nat} (hn:n≤10000000) (hn0:n≠0) (hb:bytes≤100000)
    (hs:srcCells (X h0 l w) size x=some (n,new)) (hc:new.length=n * size):appendE P t .nils x (X h0 l w) = .ok (.sl (nx h0 l.length) 0 n none size) (X h0 (l++[.cells (zBz new) e]) w):=by
  unfold appendE
  rw [hu];dsimp only;rw [hz];dsimp only;rw [hs];dsimp only
  rw [show Nat.beq n 0=false from by cases hb:Nat.beq n 0 with|false=>rfl|true=>exact absurd (Nat.eq_of_beq_eq_true hb) hn0]
  show growE P e n size new (X h0 l w)=_
  exact growE_X wf E hn hb hc

theorem yWy {h0:H} (wf:Wf h0) {t e size bytes:Nat} {z x:AV} (hu:P.underlying t=some (.slice e)) (hz:sizeE P e=some size) (E:El P e size bytes z) {n k len:Nat} {new cs:List AV} {l:List AO} {w:Nat} (hn:len+n≤10000000) (hn0:n≠0) (hb:bytes≤100000)
    (hk:l[k]? = some (.cells (zBz cs) e)) (hcs:cs.length=len * size) (hs:srcCells (X h0 l w) size x=some (n,new)) (hc:new.length=n * size) (ho:allOne new=true) :
    appendE P t (.sl (nx h0 k) 0 len none size) x (X h0 l w) = .ok (.sl (nx h0 l.length) 0 (len+n) none size) (X h0 (l.set k .dead++[.cells (zBz (cs++new)) e]) (min (h0.clock+k) w)):=by
  unfold appendE
  rw [hu];dsimp only;rw [hz];dsimp only;rw [hs];dsimp only
  rw [show Nat.beq n 0=false from by cases hb:Nat.beq n 0 with|false=>rfl|true=>exact absurd (Nat.eq_of_beq_eq_true hb) hn0]
  show appendSome P e size n new (.sl (nx h0 k) 0 len none size) (X h0 l w)=_
  unfold appendSome
  dsimp only
  rw [show (Nat.beq size size && Nat.beq 0 0)=true from by rw [show Nat.beq size size=true from Nat.beq_refl size];rfl,zPx wf,hk]
  dsimp only [cond]
  rw [show (Nat.beq e e && allOne new && Nat.beq new.length (n * size))=true from by rw [show Nat.beq e e=true from Nat.beq_refl e,ho,hc,show Nat.beq (n * size) (n * size)=true from Nat.beq_refl _];rfl]
  dsimp only [cond]
  rw [yZy cs (len * size) 0 (by omega)]
  dsimp only
  have hlt:=(List.getElem?_eq_some_iff.1 hk).1
  rw [yRz l w k .dead hlt]
  dsimp only
  rw [zLw,List.drop_zero,List.take_of_length_le (by omega)]
  have:=growE_X (P:=P) wf E (need:=len+n) (cs:=cs++new) (l:=l.set k .dead) (w:=min (h0.clock+k) w) hn hb (by rw [List.length_append,hcs,hc,Nat.add_mul])
  rw [List.length_set] at this
  exact this

theorem src_sl {h:H} {size id off len cap esz o} {m:Nat→Option AV} {cs:List AV} (hg:getObj id h=some o) (hm:cellsOf o=some m) (hr:readM m (len * size) off=some cs) (he:esz=size):srcCells h size (.sl id off len cap esz)=some (len,cs):=by
  subst he
  unfold srcCells
  dsimp only
  rw [show Nat.beq esz esz=true from Nat.beq_refl esz]
  show (match readCells h id off (len * esz) with|some cs=>some (len,cs)|none=>none)=_
  rw [xXz hg hm,hr]
theorem src_new {h0:H} (wf:Wf h0) {l:List AO} {w k len size e:Nat} {cap:Option Nat} {cs:List AV} (hk:l[k]? = some (.cells (zBz cs) e)) (hc:cs.length=len * size):srcCells (X h0 l w) size (.sl (nx h0 k) 0 len cap size)=some (len,cs):=
  src_sl (by rw [zPx wf];exact hk) rfl (by rw [yZy _ _ _ (by omega),List.drop_zero,List.take_of_length_le (by omega)]) rfl
theorem yYy {t:TypeId} : reszT P t .nils = .nils:=by
  unfold reszT
  cases P.underlying t with
  | none=>rfl
  | some d=>cases d with
    | slice e=>dsimp only;cases sizeE P e <;> rfl
    | _=>rfl
theorem yUw {t:TypeId} {id off len esz} : reszT P t (.sl id off len none esz) = .sl id off len none esz:=by
  unfold reszT
  cases P.underlying t with
  | none=>rfl
  | some d=>cases d with
    | slice e=>dsimp only;cases sizeE P e <;> rfl
    | _=>rfl
theorem yUx {t e size:TypeId} {id off len c esz} (hu:P.underlying t=some (.slice e)) (hz:sizeE P e=some size):reszT P t (.sl id off len (some c) esz) = .sl id off len (some c) size:=by
  unfold reszT
  rw [hu];dsimp only;rw [hz];rfl
end
end Go.Ev
end

section
namespace Go.Ev
section
variable {P:Program}

def Grow (h:H) (L0 G:List AO) (v:AV) (sz e len:Nat) (cs:List AV):Prop:=
  cs.length=len * sz∧((len=0∧v = .nils) ∨ ∃ idx,v = .sl (nx h (L0.length+idx)) 0 len none sz∧G[idx]? = some (.cells (zBz cs) e))
theorem Grow.nil (h:H) (L0 G:List AO) (sz e:Nat):Grow h L0 G .nils sz e 0 []:=⟨by simp,.inl ⟨rfl,rfl⟩⟩
theorem Grow.resz {h:H} {L0 G:List AO} {v:AV} {sz e len:Nat} {cs:List AV} (g:Grow h L0 G v sz e len cs) (t:TypeId):reszT P t v=v:=by
  obtain ⟨_,⟨_,rfl⟩|⟨idx,rfl,_⟩⟩:=g
  · exact yYy
  · exact yUw
theorem Grow.sl {h:H} (wf:Wf h) {L0 G:List AO} {v:AV} {sz e len:Nat} {cs:List AV} (g:Grow h L0 G v sz e len cs) (w:Nat):Sl (X h (L0++G) w) v sz len cs:=by
  obtain ⟨hl,⟨rfl,rfl⟩|⟨idx,rfl,hg⟩⟩:=g
  · exact ⟨hl,.inl ⟨rfl,rfl⟩⟩
  · exact Sl.new wf hl (by rw [xOz];exact hg)
theorem Grow.more {h:H} {L0 G:List AO} {v:AV} {sz e len:Nat} {cs:List AV} (g:Grow h L0 G v sz e len cs) (l:List AO):Grow h L0 (G++l) v sz e len cs:=by
  obtain ⟨hl,⟨rfl,rfl⟩|⟨idx,rfl,hg⟩⟩:=g
  · exact ⟨hl,.inl ⟨rfl,rfl⟩⟩
  · exact ⟨hl,.inr ⟨idx,rfl,by rw [List.getElem?_append_left (List.getElem?_eq_some_iff.1 hg).1];exact hg⟩⟩
theorem Grow.flat {h:H} {L0 G:List AO} {v:AV} {sz e len:Nat} {cs:List AV} (g:Grow h L0 G v sz e len cs):AV.cells v=[v]∧oneB v=true:=by
  obtain ⟨hl,⟨rfl,rfl⟩|⟨idx,rfl,hg⟩⟩:=g <;> exact ⟨rfl,rfl⟩

theorem WV_keep {h:H} (wf:Wf h) {v:AV} {l:List AO} {w:Nat} {Q:AV→H→Prop} (hw:h.clock≤w) (q1:flat v=true→Q v h) (q2:flat v=false→Q v (X h l h.w)):WV (pureCall h (.ok v (X h l w))) Q:=by
  cases hf:flat v with
  | true=>exact zLy hf hw (q1 hf)
  | false=>
    refine WV_ext (by rw [hf,Bool.and_false]) ?_
    rw [Nat.min_eq_left (Nat.le_trans wf.wle hw)]
    exact q2 hf
theorem Grow.ret {h:H} (wf:Wf h) {L0 G:List AO} {v:AV} {sz e len:Nat} {cs:List AV} (g:Grow h L0 G v sz e len cs) {Q:AV→H→Prop} (q : ∀ M,Sl (X h M h.w) v sz len cs→Q v (X h M h.w)) {w:Nat} (hw:h.clock≤w):WV (pureCall h (.ok v (X h (L0++G) w))) Q:=by
  refine WV_keep wf hw (fun hf=>?_) (fun _=>q _ (g.sl wf h.w))
  have:=q []
  rw [X_self] at this
  refine this ?_
  obtain ⟨hl,⟨rfl,rfl⟩|⟨idx,rfl,hg⟩⟩:=g
  · exact ⟨hl,.inl ⟨rfl,rfl⟩⟩
  · cases hf

theorem Grow.append {h:H} (wf:Wf h) {L0 G:List AO} {v:AV} {sz e len bytes:Nat} {z:AV} {cs:List AV} (g:Grow h L0 G v sz e len cs) {t:TypeId} (hu:P.underlying t=some (.slice e)) (hz:sizeE P e=some sz) (E:El P e sz bytes z)
    {n:Nat} {new:List AV} {x:AV} (hn:len+n≤10000000) (hn0:n≠0) (hb:bytes≤100000) (hc:new.length=n * sz) (ho:allOne new=true) (hs : ∀ w,srcCells (X h (L0++G) w) sz x=some (n,new)) :
    ∃ v' G',Grow h L0 G' v' sz e (len+n) (cs++new)∧(∀ w,h.clock≤w → ∃ w',h.clock≤w'∧w'≤w∧appendE P t v x (X h (L0++G) w) = .ok v' (X h (L0++G') w')):=by
  obtain ⟨hl,⟨rfl,rfl⟩|⟨idx,rfl,hg⟩⟩:=g
  · have hcs:cs=[]:=List.length_eq_zero_iff.1 (by simpa using hl)
    subst hcs
    refine ⟨.sl (nx h (L0.length+G.length)) 0 n none sz,G++[.cells (zBz new) e],⟨by simpa using hc,.inr ⟨G.length,by rw [Nat.zero_add],by simp⟩⟩,fun w hw=>⟨w,hw,Nat.le_refl w,?_⟩⟩
    have:=xFx (P:=P) wf hu hz E (x:=x) (l:=L0++G) (w:=w) (by omega) hn0 hb (hs w) hc
    rw [List.length_append,List.append_assoc] at this
    exact this
  · have hi:=(List.getElem?_eq_some_iff.1 hg).1
    refine ⟨.sl (nx h (L0.length+G.length)) 0 (len+n) none sz,G.set idx .dead++[.cells (zBz (cs++new)) e],⟨by rw [List.length_append,hl,hc,Nat.add_mul],.inr ⟨G.length,rfl,?_⟩⟩,fun w hw=>⟨min (h.clock+(L0.length+idx)) w,by omega,Nat.min_le_right _ _,?_⟩⟩
    rotate_right 1
    · have:=yWy (P:=P) wf hu hz E (x:=x) (k:=L0.length+idx) (l:=L0++G) (w:=w) hn hn0 hb (by rw [xOz];exact hg) hl (hs w) hc ho
      rw [List.length_append,xEz,List.append_assoc] at this
      exact this
    · rw [List.getElem?_append_right (by simp)];simp

end
end Go.Ev
end

section
namespace Go.Ev
theorem bb :type_of% (And.intro (And.intro (And.intro (And.intro (And.intro (And.intro (And.intro (@x_move) (@x_assign)) (And.intro (@x_pick) (And.intro (@x_alloc) (@x_box)))) (And.intro (And.intro (@x_build) (@x_load)) (And.intro (@x_store) (And.intro (@x_nilCheck) (@x_binOp))))) (And.intro (And.intro (And.intro (@x_unOp) (@x_convert)) (And.intro (@x_makeFunc) (And.intro (@x_makeMap) (@x_makeSlice)))) (And.intro (And.intro (@x_slice) (@x_fieldAddr)) (And.intro (@x_field) (And.intro (@x_indexAddr) (@x_index)))))) (And.intro (And.intro (And.intro (And.intro (@x_lookup) (@x_mapUpdate)) (And.intro (@x_extract) (And.intro (@x_callB) (@x_callF)))) (And.intro (And.intro (@x_callT) (@xVz)) (And.intro (@WV_okI) (And.intro (@on1_ok) (@of_ok))))) (And.intro (And.intro (And.intro (@done_ok) (@zFv)) (And.intro (@get_tmp) (And.intro (@evT_int) (@evT_bool)))) (And.intro (And.intro (@evT_str) (@evT_nils)) (And.intro (@evT_nilm) (And.intro (@evT_nilp) (@evT_nilf))))))) (And.intro (And.intro (And.intro (And.intro (And.intro (@evT_func) (@zAz)) (And.intro (@evL_nil) (And.intro (@evL_cons') (@evParts_nil)))) (And.intro (And.intro (@xZv) (@pickE_def)) (And.intro (@allocE_def) (And.intro (@cells_bool) (@cells_int))))) (And.intro (And.intro (And.intro (@cells_str) (@cells_ptr)) (And.intro (@cells_nilp) (And.intro (@cells_sl) (@cells_nils)))) (And.intro (And.intro (@cells_map) (@cells_nilm)) (And.intro (@cells_fn) (And.intro (@cells_nilf) (@cells_agg)))))) (And.intro (And.intro (And.intro (And.intro (@asPtr_ptr) (@asSl_sl)) (And.intro (@zDx) (And.intro (@zGz) (@asTup_tup)))) (And.intro (And.intro (@xDw) (@yXv)) (And.intro (@yYy) (And.intro (@yUw) (@yVv))))) (And.intro (And.intro (And.intro (@slicesE_def) (@optNat_none)) (And.intro (@optNat_def) (And.intro (@Int.toNat_natCast) (@xRz)))) (And.intro (And.intro (@cellsOf_ro) (@xHw)) (And.intro (@oneB_bool) (And.intro (@oneB_int) (@oneB_str)))))))) (And.intro (And.intro (And.intro (And.intro (And.intro (And.intro (@oneB_ptr) (@oneB_nilp)) (And.intro (@oneB_sl) (And.intro (@oneB_nils) (@oneB_map)))) (And.intro (And.intro (@oneB_nilm) (@oneB_fn)) (And.intro (@oneB_nilf) (And.intro (@loadE_ptr) (@storeE_ptr))))) (And.intro (And.intro (And.intro (@xVy) (@xVw)) (And.intro (@xVx) (And.intro (@xMz) (@addOff_some)))) (And.intro (And.intro (@yVz) (@xNy)) (And.intro (@xZw) (And.intro (@nilCheck_fn) (@xYw)))))) (And.intro (And.intro (And.intro (And.intro (@xYx) (@b_add)) (And.intro (@b_sub) (And.intro (@b_mul) (@b_eql)))) (And.intro (And.intro (@b_neq) (@b_lss)) (And.intro (@b_leq) (And.intro (@b_gtr) (@b_geq))))) (And.intro (And.intro (And.intro (@unE_not) (@unE_neg)) (And.intro (@bi_len) (And.intro (@bi_append) (@bi_copy)))) (And.intro (And.intro (@bi_max) (@bi_min)) (And.intro (@xHv) (And.intro (@buildO_def) (@ble_dec))))))) (And.intro (And.intro (And.intro (And.intro (And.intro (@fillE_nil) (@fillE_cons)) (And.intro (@layOver_def) (And.intro (@wBv) (@zerosE_succ)))) (And.intro (And.intro (@wrap_in) (@min_ck)) (And.intro (@min_cc) (And.intro (@min_cl) (@Nat.min_self))))) (And.intro (And.intro (And.intro (@allOne_nil) (@yUy)) (And.intro (@yXz) (And.intro (@cellAt_ro) (@yWx)))) (And.intro (And.intro (@yVx) (@yVy)) (And.intro (@xSz) (And.intro (@marked_X) (@nx_X)))))) (And.intro (And.intro (And.intro (And.intro (@unmark_keep) (@unmark_full)) (And.intro (@yWw) (And.intro (@xOz) (@xWz)))) (And.intro (And.intro (@xEz) (@Nat.add_zero)) (And.intro (@Nat.zero_add) (And.intro (@Nat.mul_one) (@Nat.zero_mul))))) (And.intro (And.intro (And.intro (@Nat.one_mul) (@Bool.not_true)) (And.intro (@Bool.not_false) (And.intro (@Bool.true_and) (@Bool.and_true)))) (And.intro (And.intro (@Bool.false_and) (@Bool.and_false)) (And.intro (@decide_true) (And.intro (@decide_false) (@beq_dec))))))))):=And.intro (And.intro (And.intro (And.intro (And.intro (And.intro (And.intro (@x_move) (@x_assign)) (And.intro (@x_pick) (And.intro (@x_alloc) (@x_box)))) (And.intro (And.intro (@x_build) (@x_load)) (And.intro (@x_store) (And.intro (@x_nilCheck) (@x_binOp))))) (And.intro (And.intro (And.intro (@x_unOp) (@x_convert)) (And.intro (@x_makeFunc) (And.intro (@x_makeMap) (@x_makeSlice)))) (And.intro (And.intro (@x_slice) (@x_fieldAddr)) (And.intro (@x_field) (And.intro (@x_indexAddr) (@x_index)))))) (And.intro (And.intro (And.intro (And.intro (@x_lookup) (@x_mapUpdate)) (And.intro (@x_extract) (And.intro (@x_callB) (@x_callF)))) (And.intro (And.intro (@x_callT) (@xVz)) (And.intro (@WV_okI) (And.intro (@on1_ok) (@of_ok))))) (And.intro (And.intro (And.intro (@done_ok) (@zFv)) (And.intro (@get_tmp) (And.intro (@evT_int) (@evT_bool)))) (And.intro (And.intro (@evT_str) (@evT_nils)) (And.intro (@evT_nilm) (And.intro (@evT_nilp) (@evT_nilf))))))) (And.intro (And.intro (And.intro (And.intro (And.intro (@evT_func) (@zAz)) (And.intro (@evL_nil) (And.intro (@evL_cons') (@evParts_nil)))) (And.intro (And.intro (@xZv) (@pickE_def)) (And.intro (@allocE_def) (And.intro (@cells_bool) (@cells_int))))) (And.intro (And.intro (And.intro (@cells_str) (@cells_ptr)) (And.intro (@cells_nilp) (And.intro (@cells_sl) (@cells_nils)))) (And.intro (And.intro (@cells_map) (@cells_nilm)) (And.intro (@cells_fn) (And.intro (@cells_nilf) (@cells_agg)))))) (And.intro (And.intro (And.intro (And.intro (@asPtr_ptr) (@asSl_sl)) (And.intro (@zDx) (And.intro (@zGz) (@asTup_tup)))) (And.intro (And.intro (@xDw) (@yXv)) (And.intro (@yYy) (And.intro (@yUw) (@yVv))))) (And.intro (And.intro (And.intro (@slicesE_def) (@optNat_none)) (And.intro (@optNat_def) (And.intro (@Int.toNat_natCast) (@xRz)))) (And.intro (And.intro (@cellsOf_ro) (@xHw)) (And.intro (@oneB_bool) (And.intro (@oneB_int) (@oneB_str)))))))) (And.intro (And.intro (And.intro (And.intro (And.intro (And.intro (@oneB_ptr) (@oneB_nilp)) (And.intro (@oneB_sl) (And.intro (@oneB_nils) (@oneB_map)))) (And.intro (And.intro (@oneB_nilm) (@oneB_fn)) (And.intro (@oneB_nilf) (And.intro (@loadE_ptr) (@storeE_ptr))))) (And.intro (And.intro (And.intro (@xVy) (@xVw)) (And.intro (@xVx) (And.intro (@xMz) (@addOff_some)))) (And.intro (And.intro (@yVz) (@xNy)) (And.intro (@xZw) (And.intro (@nilCheck_fn) (@xYw)))))) (And.intro (And.intro (And.intro (And.intro (@xYx) (@b_add)) (And.intro (@b_sub) (And.intro (@b_mul) (@b_eql)))) (And.intro (And.intro (@b_neq) (@b_lss)) (And.intro (@b_leq) (And.intro (@b_gtr) (@b_geq))))) (And.intro (And.intro (And.intro (@unE_not) (@unE_neg)) (And.intro (@bi_len) (And.intro (@bi_append) (@bi_copy)))) (And.intro (And.intro (@bi_max) (@bi_min)) (And.intro (@xHv) (And.intro (@buildO_def) (@ble_dec))))))) (And.intro (And.intro (And.intro (And.intro (And.intro (@fillE_nil) (@fillE_cons)) (And.intro (@layOver_def) (And.intro (@wBv) (@zerosE_succ)))) (And.intro (And.intro (@wrap_in) (@min_ck)) (And.intro (@min_cc) (And.intro (@min_cl) (@Nat.min_self))))) (And.intro (And.intro (And.intro (@allOne_nil) (@yUy)) (And.intro (@yXz) (And.intro (@cellAt_ro) (@yWx)))) (And.intro (And.intro (@yVx) (@yVy)) (And.intro (@xSz) (And.intro (@marked_X) (@nx_X)))))) (And.intro (And.intro (And.intro (And.intro (@unmark_keep) (@unmark_full)) (And.intro (@yWw) (And.intro (@xOz) (@xWz)))) (And.intro (And.intro (@xEz) (@Nat.add_zero)) (And.intro (@Nat.zero_add) (And.intro (@Nat.mul_one) (@Nat.zero_mul))))) (And.intro (And.intro (And.intro (@Nat.one_mul) (@Bool.not_true)) (And.intro (@Bool.not_false) (And.intro (@Bool.true_and) (@Bool.and_true)))) (And.intro (And.intro (@Bool.false_and) (@Bool.and_false)) (And.intro (@decide_true) (And.intro (@decide_false) (@beq_dec))))))))
end Go.Ev
end

section
namespace Go.Ev
section
variable {P:Program} {K:List Con}

theorem setParams1 {n t:Nat} {v:AV} {f:TF} (hk:(Nat.ble (Nat.succ t) n && Nat.ble (Nat.succ t) 384)=true):setParams n [t] [v] (mkM f)=some (mkM (upd f t v)):=by
  rw [Bool.and_eq_true] at hk
  unfold setParams
  rw [hk.1,set_mkM _ _ _ (Nat.le_of_ble_eq_true hk.2)];rfl
def yldB (l:Pos) (Q:AV→H→Prop):CQ
  | .norm,_,_,h=>∃ st pend fn n tm params assign body dd h',getObj l h=some (.loop st pend fn n tm params assign body dd)∧setObj l (.loop .ready .norm fn n tm params assign body dd) h=some h'∧Q (.bool true) h'
  | .exit id,_,_,h=>∃ st pend fn n tm params assign body dd h',getObj l h=some (.loop st pend fn n tm params assign body dd)∧setObj l (.loop .done (.exit id) fn n tm params assign body dd) h=some h'∧Q (.bool false) h'
  | .ret,_,_,h=>∃ st pend fn n tm params assign body dd h',getObj l h=some (.loop st pend fn n tm params assign body dd)∧setObj l (.loop .done .ret fn n tm params assign body dd) h=some h'∧Q (.bool false) h'
def yldA (x:Cx) (l:Pos) (body:Code) (Q:AV→H→Prop):CQ
  | .norm,f,d,h=>∃ pend fn n tm params assign body' dd h',getObj l h=some (.loop .ready pend fn n tm params assign body' dd)∧setObj l (.loop .busy pend fn n tm params assign body' dd) h=some h'∧WC x body f d h' (yldB l Q)
  | _,_,_,_=>False
theorem WV_yld {l:Pos} {args:List AV} {h:H} {Q:AV→H→Prop} {st:LoopState} {pend:J} {g n:Nat} {f0 f1:TF} {params:Array Tmp} {assign body:Code} {dd:Pos}
    (hg:getObj l h=some (.loop st pend g n (mkM f0) params assign body dd)) (hp:setParams n params.toList args (mkM f0)=some (mkM f1))
    (w:WC ⟨P,K,g,n,some l⟩ assign f1 [] h (yldA ⟨P,K,g,n,some l⟩ l body Q)):WV ((om P K).call (.yld l args) h) Q:=by
  obtain ⟨j,f2,d2,h2,e,q⟩:=w
  have e1:=yVw assign e
  cases j with
  | exit id=>exact q.elim
  | ret=>exact q.elim
  | norm=>
    obtain ⟨pend',fn',n',tm',params',assign',body',dd',h3,g1,g2,⟨j3,f3,d3,h4,e3,q3⟩⟩:=q
    have e4:=yVw body e3
    have run : ∀ v h5,endRoundE l (.ok j3 (Cx.fs ⟨P,K,g,n,some l⟩ f3 d3) h4) = .ok v h5→(om P K).call (.yld l args) h = .ok v h5:=fun v h5 hq=>by
      refine xYy rfl ?_
      show callYldE (om P K) l args h=_
      unfold callYldE
      rw [hg]
      dsimp only
      rw [hp]
      dsimp only
      have e1':(om P K).code assign ⟨g,n,mkM f1,[],some l⟩ h=_:=e1
      rw [e1']
      unfold bodyE
      dsimp only
      rw [g1]
      dsimp only
      rw [g2]
      dsimp only
      rw [e4];exact hq
    cases j3 with
    | norm=>
      obtain ⟨st,pend,fn,m,tm,ps,as',b,d5,h5,k1,k2,k3⟩:=q3
      refine ⟨_,h5,run _ h5 ?_,k3⟩
      show (match getObj l h4 with|some (.loop _ _ fn n tm params assign body d)=>(match setObj l (.loop .ready .norm fn n tm params assign body d) h4 with|some h=>RV.ok (.bool true) h|none=>.no)|_=>.no)=_
      rw [k1];dsimp only;rw [k2]
    | exit id=>
      obtain ⟨st,pend,fn,m,tm,ps,as',b,d5,h5,k1,k2,k3⟩:=q3
      refine ⟨_,h5,run _ h5 ?_,k3⟩
      show (match getObj l h4 with|some (.loop _ _ fn n tm params assign body d)=>(match setObj l (.loop .done (.exit id) fn n tm params assign body d) h4 with|some h=>RV.ok (.bool false) h|none=>.no)|_=>.no)=_
      rw [k1];dsimp only;rw [k2]
    | ret=>
      obtain ⟨st,pend,fn,m,tm,ps,as',b,d5,h5,k1,k2,k3⟩:=q3
      refine ⟨_,h5,run _ h5 ?_,k3⟩
      show (match getObj l h4 with|some (.loop _ _ fn n tm params assign body d)=>(match setObj l (.loop .done .ret fn n tm params assign body d) h4 with|some h=>RV.ok (.bool false) h|none=>.no)|_=>.no)=_
      rw [k1];dsimp only;rw [k2]

def rangeQ (l:Pos) (f:TF) (d:List Pos) (Q:CQ):AV→H→Prop:=fun _ h=>∃ st pend fn n tm params assign body dd h',getObj l h=some (.loop st pend fn n tm params assign body dd)∧st ≠ .busy∧setObj l (.loop .exhausted pend fn n tm params assign body dd) h=some h'∧Q pend f d h'
theorem endLoop_ok {l:Pos} {fs:FS} {v:AV} {h h':H} {st:LoopState} {pend:J} {fn n:Nat} {tm:M AV} {params:Array Tmp} {assign body:Code} {dd:Pos}
    (g:getObj l h=some (.loop st pend fn n tm params assign body dd)) (hst:st ≠ .busy) (s:setObj l (.loop .exhausted pend fn n tm params assign body dd) h=some h'):endLoopE l fs (.ok v h) = .ok pend fs h':=by
  unfold endLoopE
  dsimp only
  rw [g]
  cases st <;> dsimp only <;> first|exact absurd rfl hst|rw [s]
theorem WC_range {x:Cx} {fo:Operand} {params:Array Tmp} {assign body:Code} {f:TF} {d:List Pos} {h h1 h2:H} {Q:CQ} {fv:AV} {dd l:Pos} (hr:x.r=none) (hf:evT (mkM f) fo=some fv)
    (hd:newObj .dfr h=some (dd,h1)) (hl:newObj (.loop .ready .norm x.g x.n (mkM f) params assign body dd) h1=some (l,h2))
    (w:WV (callV x.P (om x.P x.K) fv [.yld l] h2) (rangeQ l f (dd :: d) Q)):WC x (.rangeFunc fo params assign body) f d h Q:=by
  obtain ⟨v,h3,e,st,pend,fn,n,tm,ps,as',b,d5,h4,k1,k2,k3,q⟩:=w
  refine ⟨pend,f,dd :: d,h4,?_,q⟩
  show rangeE x.P (om x.P x.K) fo params assign body ⟨x.g,x.n,mkM f,d,x.r⟩ h = .ok pend ⟨x.g,x.n,mkM f,dd :: d,x.r⟩ h4
  rw [hr]
  unfold rangeE
  dsimp only
  rw [hf]
  dsimp only
  rw [hd]
  dsimp only
  unfold loopE
  dsimp only
  rw [hl]
  dsimp only
  rw [e]
  exact endLoop_ok k1 k2 k3
structure Same (h h':H):Prop where
  next:h'.next=h.next
  clock:h'.clock=h.clock
theorem Same.rfl' (h:H):Same h h:=⟨rfl,rfl⟩
theorem Same.trans {a b c:H} (x:Same a b) (y:Same b c):Same a c:=⟨y.next.trans x.next,y.clock.trans x.clock⟩
theorem Same.nx {a b:H} (x:Same a b) (k:Nat):nx b k=nx a k:=by unfold Go.Ev.nx;rw [x.next]
theorem Same.X {h:H} {G G':List AO} {w w':Nat} (e:G'.length=G.length):Same (X h G w) (X h G' w'):=⟨by show nxP h.next G'.length=nxP h.next G.length;rw [e],by rw [xOy,xOy,e]⟩

def YR (lo:Nat) (hb:H) (J:List AO) (I D:H→Prop):AV→H→Prop:=fun v h'=>∃ hb' J' w',h'=X hb' (J++J') w'∧Same hb hb'∧lo≤w'∧w'<hb.clock∧(v = .bool true∧I hb'∨v = .bool false∧D hb')
def Hands (P:Program) (K:List Con) (B:H→Prop) (fv:AV) (xs:List (List AV)):Prop:=
  ∀ (l:Pos) (hb0:H) (I:Nat→H→Prop) (D:H→Prop) (lo:Nat),lo≤hb0.w→hb0.w≤hb0.clock→(∀ i h,I i h→B h∧Same hb0 h) →
    (∀ i x,xs[i]? = some x → ∀ hb J w,I i hb→lo≤w→w≤hb.clock+J.length→WV ((om P K).call (.yld l x) (X hb J w)) (YR lo hb J (I (i+1)) D)) →
    I 0 hb0→WV (callV P (om P K) fv [.yld l] hb0) fun _ h'=>∃ hb J w,h'=X hb J w∧Same hb0 hb∧lo≤w∧w≤hb.clock+J.length∧(I xs.length hb∨D hb)

theorem WV_out {h hb:H} {v:AV} {l:List AO} {w:Nat} {Q:AV→H→Prop} (hw:w<h.clock) (q:Q v (X hb l (min h.w w))):WV (pureCall h (.ok v (X hb l w))) Q:=by
  refine ⟨v,_,?_,q⟩
  obtain ⟨objs,next,clock,w0⟩:=h
  have hb1:Nat.ble clock w=false:=by
    cases hc:Nat.ble clock w with
    | false=>rfl
    | true=>have:=Nat.le_of_ble_eq_true hc;exact absurd hw (by show ¬ w<clock;omega)
  show (bif Nat.ble clock w && flat v then RV.ok v ⟨objs,next,clock,w0⟩ else RV.ok v ⟨pushAll hb.objs hb.next hb.clock l,nxP hb.next l.length,hb.clock+l.length,bif Nat.ble w0 w then w0 else w⟩)=_
  rw [hb1]
  have e:(bif Nat.ble w0 w then w0 else w)=min w0 w:=by
    cases hb:Nat.ble w0 w with
    | true=>have:=Nat.le_of_ble_eq_true hb;simp only [cond];omega
    | false=>
               have : ¬ (w0≤w):=fun hh=>by rw [Nat.ble_eq_true_of_le hh] at hb;cases hb
               simp only [cond];omega
  rw [e];rfl
end
section
variable {P:Program} {K:List Con}
theorem WC_rangeX {x:Cx} {fo:Operand} {params:Array Tmp} {assign body:Code} {f:TF} {d:List Pos} {h:H} (wf:Wf h) {L:List AO} {w:Nat} {Q:CQ} {fv:AV} (hr:x.r=none) (hf:evT (mkM f) fo=some fv)
    (q : ∀ o,o=AO.loop .ready .norm x.g x.n (mkM f) params assign body (nx h L.length)→WV (callV x.P (om x.P x.K) fv [.yld (nx h (L.length+1))] (X h (L++[.dfr,o]) w)) (rangeQ (nx h (L.length+1)) f (nx h L.length :: d) Q)):WC x (.rangeFunc fo params assign body) f d (X h L w) Q:=by
  refine WC_range (dd:=nx h L.length) (l:=nx h (L.length+1)) (h1:=X h (L++[.dfr]) w) hr hf (xJy wf .dfr L w) ?_ (q _ rfl)
  rw [xJy wf,List.append_assoc,List.length_append];rfl
theorem WV_yldX {h:H} (wf:Wf h) {L:List AO} {w k:Nat} {o:AO} {args:List AV} {Q:AV→H→Prop} {st:LoopState} {pend:J} {g n:Nat} {f0 f1:TF} {params:Array Tmp} {assign body:Code} {dd:Pos}
    (hk:L[k]? = some o) (ho:o = .loop st pend g n (mkM f0) params assign body dd) (hp:setParams n params.toList args (mkM f0)=some (mkM f1))
    (q:WC ⟨P,K,g,n,some (nx h k)⟩ assign f1 [] (X h L w) (yldA ⟨P,K,g,n,some (nx h k)⟩ (nx h k) body Q)):WV ((om P K).call (.yld (nx h k) args) (X h L w)) Q:=
  WV_yld (by rw [zPx wf,hk,ho]) hp q
theorem zLv {α : Type} {L:List α} {k:Nat} {o : α} (hk:L[k]? = some o):k<L.length:=by
  rcases Nat.lt_or_ge k L.length with h|h
  · exact h
  · rw [List.getElem?_eq_none h] at hk;cases hk
theorem yldA_X {x:Cx} {h:H} (wf:Wf h) {L:List AO} {w k:Nat} {o:AO} {Q:AV→H→Prop} {pend:J} {g n:Nat} {tm:M AV} {params:Array Tmp} {assign body body':Code} {dd:Pos} {f:TF} {d:List Pos}
    (hk:L[k]? = some o) (ho:o = .loop .ready pend g n tm params assign body' dd)
    (q : ∀ o',o'=AO.loop .busy pend g n tm params assign body' dd→WC x body f d (X h (L.set k o') (min (h.clock+k) w)) (yldB (nx h k) Q)):yldA x (nx h k) body Q .norm f d (X h L w):=
  ⟨pend,g,n,tm,params,assign,body',dd,_,by rw [zPx wf,hk,ho],yRz L w k _ (zLv hk),q _ rfl⟩
theorem yldB_X {h:H} (wf:Wf h) {L:List AO} {w k:Nat} {o:AO} {Q:AV→H→Prop} {st:LoopState} {pend:J} {g n:Nat} {tm:M AV} {params:Array Tmp} {assign body:Code} {dd:Pos} {f:TF} {d:List Pos}
    (hk:L[k]? = some o) (ho:o = .loop st pend g n tm params assign body dd)
    (q:Q (.bool true) (X h (L.set k (.loop .ready .norm g n tm params assign body dd)) (min (h.clock+k) w))):yldB (nx h k) Q .norm f d (X h L w):=
  ⟨st,pend,g,n,tm,params,assign,body,dd,_,by rw [zPx wf,hk,ho],yRz L w k _ (zLv hk),q⟩
theorem rangeQ_X {h:H} (wf:Wf h) {L:List AO} {w k:Nat} {o:AO} {Q:CQ} {st:LoopState} {pend:J} {g n:Nat} {tm:M AV} {params:Array Tmp} {assign body:Code} {dd:Pos} {f:TF} {d:List Pos} {v:AV}
    (hk:L[k]? = some o) (ho:o = .loop st pend g n tm params assign body dd) (hst:st ≠ .busy)
    (q : ∀ o',o'=AO.loop .exhausted pend g n tm params assign body dd→Q pend f d (X h (L.set k o') (min (h.clock+k) w))):rangeQ (nx h k) f d Q v (X h L w):=
  ⟨st,pend,g,n,tm,params,assign,body,dd,_,by rw [zPx wf,hk,ho],hst,yRz L w k _ (zLv hk),q _ rfl⟩
theorem takeAll_X {h:H} (wf:Wf h) {L:List AO} {w k:Nat} (hk:L[k]? = some .dfr):takeAll [nx h k] (X h L w)=some (X h (L.set k .taken) (min (h.clock+k) w)):=by
  rw [takeAll,zPx wf,hk]
  dsimp only
  rw [yRz L w k _ (zLv hk)]
  rfl
end
end Go.Ev
end

section
namespace Go.Ev
section
variable {P:Program}
theorem binE_slow {op t x y m n a} (h64:bin64E op m n=none) (hs:binSlow P op t x y (.int .i64 m) (.int .i64 n)=some a):binE P op t x y (.int .i64 m) (.int .i64 n)=some a:=by
  unfold binE bin2;rw [xDw,xDw];dsimp only;rw [h64];exact hs
theorem yRx {k:IntKind} {n:Int} : pureVal P (Sem.pure (.int k n))=some (.int k n):=by
  show force0 (.int k n)=_
  exact xDx _
theorem b_quo {t x y m n} (hn:n≠0):binE P .quo t x y (.int .i64 m) (.int .i64 n)=some (.int .i64 (IntKind.i64.wrap (m.tdiv n))):=by
  refine binE_slow rfl ?_
  show pureVal P (Op.intDiv .quo .i64 m n)=_
  unfold Op.intDiv
  rw [if_neg hn]
  exact yRx
theorem wAy {t x y m n} (hn:n≠0):binE P .rem t x y (.int .i64 m) (.int .i64 n)=some (.int .i64 (m.tmod n)):=by
  refine binE_slow rfl ?_
  show pureVal P (Op.intDiv .rem .i64 m n)=_
  unfold Op.intDiv
  rw [if_neg hn]
  exact yRx
theorem xXw {α β : Type} {s:Sem α} {f : α → Sem β} {a : α} (h:pureRun P s=some a):pureRun P (s >>= f)=pureRun P (f a):=by
  show pureRun P (Sem.bind s f)=_
  induction s with
  | pure b=>simp [pureRun] at h;subst h;rfl
  | program k ih=>exact ih P h
  | _=>simp [pureRun] at h
theorem zMx {t:TypeId} {u:TypeDesc} (h:P.underlying t=some u):pureRun P (underlying t)=some u:=by
  show pureRun P (match P.underlying t with|some d=>pure d|none=>stuck "no such type")=_
  rw [h];rfl
theorem c_int {s d:TypeId} {k k0 k':IntKind} {n:Int} (hs:P.underlying s=some (.int k0)) (hd:P.underlying d=some (.int k')):convE P s d (.int k n)=some (.int k' (k'.wrap n)):=by
  unfold convE;rw [hd]
  have e:pureRun P (convert s d (.int k n))=some (.int k' (k'.wrap n)):=by
    unfold convert
    rw [xXw (zMx hs),xXw (zMx hd)]
    rfl
  show pureVal P (convert s d (.int k n))=_
  unfold pureVal
  rw [e]
  exact xDx _
theorem zAx {tm:M AV} {g:FuncId} {first cap:Array Operand} {h:H} : makeFuncE tm (.func g) first cap h=(match evL tm first.toList with|some a=>(match evL tm cap.toList with|some b=>.ok (.fn g a b) h|none=>.no)|none=>.no):=by
  show (match evL tm first.toList,evL tm cap.toList with|some a,some b=>RV.ok (.fn g a b) h|_,_=>.no)=_
  cases evL tm first.toList <;> cases evL tm cap.toList <;> rfl
theorem retc0 {h:H} {a t:Nat} {f:TF} {v:AV} (ha:a<384) (hl:loadE P t (f a) h=some v):retE P [.cell a t] (mkM f) h = .ok v h:=by
  simp only [retE,resultsE,resultE,xFy _ _ ha,hl]
end
end Go.Ev
end

section
namespace Go.Ev
open Go.RowKit

theorem yXx : ∀ n,(posN n).val=n
  | 0=>rfl
  | n+1=>by show (posN n).succ.val=n+1;rw [Pos.val_succ,yXx n]
theorem val_posN (p:Pos):posN p.val=p:=Pos.val_inj (yXx _)

noncomputable def startT (D:Nat→Option (Nat→Option AV)):Nat→T (Nat × AO)
  | 0=>.nil
  | k+1=>T.set (0,(D k).elim .dead .ro) (posN k) (startT D k)
noncomputable def startG (D:Nat→Option (Nat→Option AV)) (N:Nat):H:=⟨startT D N,posN N,1,1⟩

theorem xDz (D:Nat→Option (Nat→Option AV)) (id:Pos) : ∀ N,T.get id (startT D N)=if id.val<N then some (0,(D id.val).elim .dead .ro) else none
  | 0=>by rw [if_neg (Nat.not_lt_zero _)];exact T.get_nil id
  | N+1=>by
    show T.get id (T.set _ (posN N) (startT D N))=_
    by_cases he:id=posN N
    · subst he;rw [T.get_set_same,yXx,if_pos (Nat.lt_succ_self N)]
    · rw [T.get_set_ne _ _ _ _ he,xDz D id N]
      have hne:id.val≠N:=fun e=>he (by rw [← e,val_posN])
      by_cases hl:id.val<N
      · rw [if_pos hl,if_pos (by omega)]
      · rw [if_neg hl,if_neg (by omega)]

theorem startG_wf (D:Nat→Option (Nat→Option AV)) (N:Nat):Wf (startG D N) where
  fresh:=fun k=>by
    show T.get (nxP (posN N) k) (startT D N)=none
    rw [xDz,if_neg (by rw [nxP_val,yXx];omega)]
  old:=fun id born o hid=>by
    have h':T.get id (startT D N)=some (born,o):=hid
    rw [xDz] at h'
    split at h'
    · cases h';exact Nat.zero_lt_one
    · cases h'
  wle:=Nat.le_refl _

theorem startG_getObj {D:Nat→Option (Nat→Option AV)} {N b:Nat} {m:Nat→Option AV} (hb:b<N) (hd:D b=some m):getObj (posN b) (startG D N)=some (.ro m):=by
  rw [getObj_eq]
  show Option.map (·.2) (T.get (posN b) (startT D N))=_
  rw [xDz,yXx,if_pos hb,hd];rfl

def cellsSize (W:World) (b:Nat):Nat:=match W.heap[b]? with
  | some (.cells c _ _)=>c.size
  | _=>0

open Classical in
noncomputable def startGR (D:Nat→Option (Nat→Option AV)) (N:Nat) (W:World):R:=fun id=>if id.val<N then (D id.val).elim (some none) (fun _=>some (some (id.val,cellsSize W id.val))) else none

def Known (D:Nat→Option (Nat→Option AV)) (N:Nat) (W:World):Prop:=∀ b m,D b=some m→b<N ∧ ∃ c e f,W.heap[b]? = some (.cells c e f)∧RowsF (startGR D N W) m c

theorem startG_hr {D:Nat→Option (Nat→Option AV)} {N:Nat} {W:World} (hN:64≤N) (h:Known D N W):HR (startGR D N W) (startG D N) W∧GR (startGR D N W) ∧ ∀ b,¬ Wr (startGR D N W) (startG D N) b:=by
  have key : ∀ id x,startGR D N W id=some x→(id.val<N∧D id.val=none∧x=none)∨(∃ m,id.val<N∧D id.val=some m∧x=some (id.val,cellsSize W id.val)):=fun id x hx=>by
    unfold startGR at hx
    split at hx
    · rename_i hl
      cases hd:D id.val with
      | none=>rw [hd] at hx;cases hx;exact .inl ⟨hl,rfl,rfl⟩
      | some m=>rw [hd] at hx;cases hx;exact .inr ⟨m,hl,rfl,rfl⟩
    · cases hx
  have obj : ∀ id,id.val<N→T.get id (startG D N).objs=some (0,(D id.val).elim .dead .ro):=fun id hl=>by
    show T.get id (startT D N)=_
    rw [xDz,if_pos hl]
  refine ⟨⟨?_,?_,?_,?_⟩,?_,?_⟩
  · intro id b n hid
    rcases key id _ hid with ⟨_,_,hx⟩|⟨m,hl,hd,hx⟩
    · cases hx
    · cases hx
      obtain ⟨_,c,e,f,hb,hc⟩:=h _ _ hd
      refine ⟨0,.ro m,.cells c e f,by rw [obj id hl,hd];rfl,hb,?_⟩
      have hs:cellsSize W id.val=c.size:=by unfold cellsSize;rw [hb]
      rw [hs]
      exact .ro m e c f hc
  · intro i j b n n' hi hj
    rcases key i _ hi with ⟨_,_,hx⟩|⟨_,_,_,hx⟩
    · cases hx
    · rcases key j _ hj with ⟨_,_,hy⟩|⟨_,_,_,hy⟩
      · cases hy
      · have e1:=congrArg Prod.fst (Option.some.inj hx)
        have e2:=congrArg Prod.fst (Option.some.inj hy)
        exact Pos.val_inj (e1.symm.trans e2)
  · intro id hid
    rcases key id _ hid with ⟨hl,hd,_⟩|⟨_,_,_,hx⟩
    · exact ⟨0,by rw [obj id hl,hd];rfl⟩
    · cases hx
  · intro id born o hid
    exact (startG_wf D N).old id born o hid
  · intro g hg
    have hl:(posN g).val<N:=by rw [yXx];omega
    unfold startGR
    rw [if_pos hl]
    cases hd:D (posN g).val with
    | none=>exact ⟨none,rfl,fun b n e=>by cases e⟩
    | some m=>exact ⟨_,rfl,fun b n e=>by cases e;rw [yXx]⟩
  · rintro b ⟨id,n,hid,hro⟩
    rcases key id _ hid with ⟨_,_,hx⟩|⟨m,hl,hd,hx⟩
    · cases hx
    · exact hro ⟨0,m,by rw [obj id hl,hd];rfl⟩

theorem startG_calls {P:Program} {g:FuncId} {D:Nat→Option (Nat→Option AV)} {N:Nat} {args:List AV} {v:AV} {h':H} (ok:TgtOK P (.fn g args) (startG D N) v h') {W:World} (hN:64≤N) (hW:Known D N W)
    {args':Array Value} (ha:VL (startGR D N W) args args'.toList):Calls P g args' W fun e w'=>(∃ ρ v',e = .returned v'∧VR ρ v v'∧HR ρ h' w')∧Grown W w' ∧ ∀ b,b<W.heap.size→w'.heap[b]? = W.heap[b]?:=by
  obtain ⟨hr,hg,hwr⟩:=startG_hr hN hW
  intro frames
  obtain ⟨ρ',v',w',fr,a1,a2,a3,a4,a5,a6⟩:=ok (startGR D N W) args' W hg hr ha frames
  refine ⟨.returned v',w',fr,⟨⟨ρ',v',rfl,a1,a2⟩,⟨⟨a3.os,a3.out,fun i hi=>?_⟩,a3.frz,a3.size⟩,fun b hb=>a3.frame b hb (hwr b)⟩,a4,a5,a6⟩
  have:=a3.frame i hi (hwr i)
  rw [this]
  have hsome:W.heap[i]? = some W.heap[i]:=by simp [hi]
  rw [hsome]
  cases W.heap[i] with
  | cells c t fr=>exact ⟨rfl,rfl,rfl,fun _ _=>rfl⟩
  | map es clock=>exact .inr ⟨rfl,rfl⟩
  | _=>rfl

noncomputable def startN :H:=startG (fun _=>none) 64

end Go.Ev
end

section
namespace Go.Ev
open Go.RowKit

noncomputable def absV (N:Nat):Value→Option AV
  | .bool b=>some (.bool b)
  | .int k n=>some (.int k n)
  | .string s=>some (.str s)
  | .pointer none=>some .nilp
  | .pointer (some ⟨b,off,none⟩)=>if b<N then some (.ptr (posN b) off) else none
  | .slice none 0 0=>some .nils
  | .slice (some a) len cap=>if a.block<N∧a.spot=none∧len≤cap then some (.sl (posN a.block) a.off len (some cap) 0) else if len=0∧cap=0 then some (.sl (posN (N - 1)) 0 0 (some 0) 0) else none
  | .map none=>some .nilm
  | .nilFunc=>some .nilf
  | .nilIface=>some .nili
  | _=>none

abbrev NW (W:World):Nat:=max 64 (W.heap.size+1)
theorem NW_gt (W:World):W.heap.size<NW W:=by unfold NW;omega
theorem NW_last (W:World):NW W - 1<NW W∧W.heap.size≤NW W - 1:=by unfold NW;omega
noncomputable def blockF (W:World) (b:Nat):Option (Nat→Option AV):=match W.heap[b]? with
  | some (.cells c _ _)=>some fun i=>(c[i]?).bind (absV (NW W))
  | _=>none

noncomputable abbrev startW (W:World):H:=startG (blockF W) (NW W)
noncomputable abbrev startWR (W:World):R:=startGR (blockF W) (NW W) W

theorem xVv (W:World) {b:Nat} (hb:b<NW W) : ∃ x,startWR W (posN b)=some x ∧ ∀ c n,x=some (c,n)→c=b:=by
  unfold startWR startGR
  rw [yXx,if_pos hb]
  cases blockF W b with
  | none=>exact ⟨none,rfl,fun c n e=>by cases e⟩
  | some f=>exact ⟨_,rfl,fun c n e=>by cases e;rfl⟩

theorem startWR_last (W:World):startWR W (posN (NW W - 1))=some none:=by
  unfold startWR startGR
  rw [yXx,if_pos (NW_last W).1]
  have:blockF W (NW W - 1)=none:=by
    unfold blockF
    rw [Array.getElem?_eq_none (NW_last W).2]
  rw [this];rfl

theorem absV_vr {W:World} {v:Value} {a:AV} (h:absV (NW W) v=some a):VR (startWR W) a v:=by
  unfold absV at h
  split at h
  · cases h;exact .bool _
  · cases h;exact .int _ _
  · cases h;exact .str _
  · cases h;exact .nilp
  · split at h
    · rename_i hb
      cases h
      obtain ⟨x,h1,h2⟩:=xVv W hb
      exact .ptr _ _ _ x h1 h2
    · cases h
  · cases h;exact .nils
  · rename_i a len cap
    obtain ⟨b,off,spot⟩:=a
    split at h
    · rename_i hb
      obtain ⟨hb1,hb2,hb3⟩:=hb
      dsimp only at hb1 hb2
      subst hb2
      cases h
      obtain ⟨x,h1,h2⟩:=xVv W hb1
      exact .sl _ _ _ _ _ _ _ x h1 (fun c n e=>⟨h2 c n e,fun e=>by cases e⟩) (fun c e=>by cases e;rfl) hb3
    · split at h
      · rename_i hz
        obtain ⟨rfl,rfl⟩:=hz
        cases h
        exact .sle _ _ _ _ (startWR_last W)
      · cases h
  · cases h;exact .nilm
  · cases h;exact .nilf
  · cases h;exact .nili
  · cases h

theorem known0 (W:World):Known (blockF W) (NW W) W:=by
  intro b m hb
  unfold blockF at hb
  split at hb
  · rename_i c e f hc
    have hlt:b<W.heap.size:=(Array.getElem?_eq_some_iff.1 hc).1
    cases hb
    refine ⟨Nat.lt_trans hlt (NW_gt W),c,e,f,hc,fun i v hv=>?_⟩
    obtain ⟨v',h1,h2⟩:=Option.bind_eq_some_iff.1 hv
    exact ⟨v',h1,absV_vr h2⟩
  · cases hb

theorem startW_wf (W:World):Wf (startW W):=startG_wf _ _

theorem startW_block {W:World} {b:Nat} {c:Array Value} {e:TypeId} {f:Nat × Nat} (hb:W.heap[b]? = some (.cells c e f)):Ev.getObj (posN b) (startW W)=some (.ro fun i=>(c[i]?).bind (absV (NW W))):=by
  have hlt:b<W.heap.size:=(Array.getElem?_eq_some_iff.1 hb).1
  refine startG_getObj (Nat.lt_trans hlt (NW_gt W)) ?_
  unfold blockF
  rw [hb]

theorem cell_block {W:World} {b off:Nat} {v:Value} (h:W.cell? ⟨b,off,none⟩=some v) : ∃ c e f,W.heap[b]? = some (.cells c e f)∧c[off]? = some v:=by
  unfold World.cell? at h
  dsimp only at h
  split at h
  · rename_i c e f hb
    exact ⟨_,_,_,hb,h⟩
  · cases h

theorem startW_sl {W:World} {b off len cap m:Nat} {cells:List AV} (hex : ∃ c e f,W.heap[b]? = some (.cells c e f)) (hl:cells.length=len * m)
    (hk : ∀ k,k<len * m → ∃ v,W.cell? ⟨b,off+k,none⟩=some v∧absV (NW W) v=cells[k]?):Sl (startW W) (.sl (posN b) off len (some cap) 0) m len cells:=by
  obtain ⟨c,e,f,hb⟩:=hex
  refine ⟨hl,.inr ⟨_,_,_,_,_,_,rfl,startW_block hb,rfl,fun k hkl=>?_⟩⟩
  obtain ⟨v,h1,h2⟩:=hk k hkl
  obtain ⟨c',e',f',hb',hc'⟩:=cell_block h1
  rw [hb] at hb'
  cases hb'
  show (c[off+k]?).bind _=_
  rw [hc']
  exact h2

theorem startW_arg {W:World} {b off len cap:Nat} (hb:b<W.heap.size) (hl:len≤cap):VR (startWR W) (.sl (posN b) off len (some cap) 0) (.slice (some ⟨b,off,none⟩) len cap):=
  absV_vr (by show (if b<NW W∧none=none∧len≤cap then _ else _)=_;rw [if_pos ⟨Nat.lt_trans hb (NW_gt W),rfl,hl⟩])

theorem startW_true {P:Program} (hm:P.follows .mixedOrders=true) {K:List Con} (hK : ∀ c ∈ K,ConOK P c) {g:FuncId} {W:World} {args:List AV} {h':H} (he:(om P K).call (.fn g args) (startW W) = .ok (.bool true) h')
    {args':Array Value} (ha:VL (startWR W) args args'.toList):Calls P g args' W fun e w'=>e = .returned (.bool true)∧Grown W w' ∧ ∀ b,b<W.heap.size→w'.heap[b]? = W.heap[b]?:=by
  refine (startG_calls (om_ok hm hK he) (Nat.le_max_left _ _) (known0 W) ha).mono fun e w' ⟨⟨ρ,v',h1,h2,_⟩,h3⟩=>⟨?_,h3⟩
  cases h2
  exact h1
end Go.Ev
end

section
namespace Go.Ev
open Go.ChangeShapes Go.WideShapes Go.ChangeAt Go.RowKit Go.Deep
section
variable {H:Type} {enc:TypeId × Value→H} {P:Program}

theorem same_at {W W':World} (hs : ∀ b,b<W.heap.size→W'.heap[b]? = W.heap[b]?) {p:MemPlace} (hp:p.block<W.heap.size):W.sameAt W' p:=by
  cases p with
  | cell b o=>exact World.cell?_of_block (w:=W) (hs b hp)
  | map b=>exact hs b hp

theorem xOw (hl:laidOutB P=true) {W W':World} {sp:Nat→Bool} : ∀ {ts:List TypeId} {vs:List Value} {ds:List (DataW H)} {ps:List MemPlace},(∀ t ∈ ts,P.readableRec t=true∧t<P.types.size) →
    DataW.TrodAll enc P W 0 (fun _=>true) true ts vs ds ps→(∀ p ∈ ps,W.sameAt W' p)→(∀ p ∈ ps,sp p.block=true)→DataW.TrodAll enc P W' 0 sp true ts vs ds ps
  | [],[],[],ps,_,h,_,_=>h
  | t :: ts,v :: vs,d :: ds,ps,ht,h,hsame,hs=>by
    obtain ⟨p,q,h1,h2,rfl⟩:=h
    obtain ⟨a1,a2⟩:=ht t List.mem_cons_self
    exact ⟨p,q,WideElems.Trod_stays hl a1 a2 h1 (fun x hx=>hsame x (List.mem_append_left _ hx)) (fun x hx=>hs x (List.mem_append_left _ hx)),
      xOw hl (fun t ht'=>ht t (List.mem_cons_of_mem _ ht')) h2 (fun x hx=>hsame x (List.mem_append_right _ hx)) (fun x hx=>hs x (List.mem_append_right _ hx)),rfl⟩
  | [],_ :: _,_,_,_,h,_,_=>h.elim
  | _ :: _,[],_,_,_,h,_,_=>h.elim
  | [],[],_ :: _,_,_,h,_,_=>h.elim
  | _ :: _,_ :: _,[],_,_,h,_,_=>h.elim

theorem law_post {f:Func} {s:ChangeSpec} {apart:Bool} {W W':World} {args:Array Value} {ds gs:List (DataW H)} {before:List MemPlace} (hl:laidOutB P=true) (hp : ∀ t ∈ f.params.toList,P.readableRec t=true∧t<P.types.size)
    (hvars:s.vars=[]) (hrt:f.resultTypes = #[4]) (hu:P.underlying 4=some .bool)
    (hfn : ∀ gs':List (DataW H),(∃ q,DataW.TrodVars enc P W (fun _=>true) s.vars gs' q)→(s.fn H (ds++gs')).results=[.lit (.bool true)]∧(s.fn H (ds++gs')).args=ds∧(s.fn H (ds++gs')).vars=[])
    (hW:DataW.Whole enc P f.params.toList s.vars apart W args.toList ds gs before) (hg:Grown W W') (hs : ∀ b,b<W.heap.size→W'.heap[b]? = W.heap[b]?):s.post enc P f apart true false false W args (.bool true) W':=by
  have hlt:=hW.lt
  have hW':=hW
  obtain ⟨p,q,hA,hV,rfl,hfz,hnd⟩:=hW
  obtain ⟨e1,e2,e3⟩:=hfn gs ⟨q,hV⟩
  have hq:q=[]:=by
    rw [hvars] at hV
    exact (trodVars_none hV).2
  subst hq
  refine post_of_same (pa:=p) (pv:=[]) hW' (fun b sp hd=>?_) (fun sp hsp=>?_) (fun sp _=>?_) (by simp) (hg.frame _) hg.2.1 (ok_one hrt rfl (okWide_bool_mk hu _))
  · rw [e1,hrt]
    exact trodAll_cons_mk (shut_bool hu _) trodAll_mk0
  · rw [e2]
    exact xOw hl hp hA (fun x hx=>same_at hs (by simpa using hlt x (by simpa using hx))) (fun x hx=>hsp x (by simpa using hx))
  · rw [e3,hvars];rfl
end
end Go.Ev
end

section
namespace Go.Ev
open Go.ChangeShapes Go.WideShapes Go.ChangeAt Go.RowKit Go.Deep
section
variable {H:Type} {enc:TypeId × Value→H} {P:Program} {r:Reach} {bs:Nat}

def Capd (a:AV):Prop:=(∀ id off l esz,a ≠ .sl id off l none esz)∧(∀ id off l c esz,a = .sl id off l (some c) esz→l≤c)

theorem capd_nils :Capd .nils:=by
  constructor
  · intro _ _ _ _ e;cases e
  · intro _ _ _ _ _ e;cases e
theorem capd_sl {id:Pos} {off len cap esz:Nat} (h:len≤cap):Capd (.sl id off len (some cap) esz):=by
  constructor
  · intro _ _ _ _ e;cases e
  · intro _ _ _ _ _ e;cases e;exact h
theorem slice_form {W:World} {t e:TypeId} {v:Value} (hu:P.underlying t=some (.slice e)) (h:Cell.okWide P W r bs t v) :
    v = .slice none 0 0 ∨ ∃ b off len cap,v = .slice (some ⟨b,off,none⟩) len cap∧len≤cap∧(∃ c e f,W.heap[b]? = some (.cells c e f)):=by
  unfold Cell.okWide at h
  rw [hu] at h
  dsimp only at h
  unfold Cell.ok at h
  rw [hu] at h
  cases v with
  | slice a len cap=>
    cases a with
    | none=>
      cases len with
      | zero=>cases cap with
        | zero=>exact .inl rfl
        | succ c=>exact h.elim
      | succ l=>exact h.elim
    | some a=>
      right
      obtain ⟨h1,h2,h3,h4,row,cells,h5,_⟩:=h
      obtain ⟨b,off,spot⟩:=a
      dsimp only at h4 h5
      subst h4
      refine ⟨b,off,len,cap,rfl,h1,?_⟩
      unfold World.shape? at h5
      split at h5
      · rename_i c e f hb;exact ⟨c,e,f,hb⟩
      · cases h5
  | _=>exact h.elim

theorem lt_of_block {W:World} {b:Nat} (h : ∃ c e f,W.heap[b]? = some (.cells c e f)):b<W.heap.size:=by
  obtain ⟨c,e,f,hb⟩:=h;exact (Array.getElem?_eq_some_iff.1 hb).1

theorem add_at (b off n:Nat):(⟨b,off,none⟩:Addr).add n=⟨b,off+n,none⟩:=by
  unfold Addr.add
  by_cases h:n=0
  · subst h;rfl
  · rw [if_neg h]

theorem absV_i64 (N:Nat) (n:Int):absV N (.int .i64 n)=some (.int .i64 n):=rfl

theorem open_i64s {W:World} {t e:TypeId} {v:Value} {fuel:Nat} {x:DataW H × List MemPlace} (hu:P.underlying t=some (.slice e)) (he:P.underlying e=some (.int .i64)) (hc:P.cellsOf e=1)
    (hval:Cell.okWide P W r bs t v) (h:DataW.trod enc P W 0 (fun _=>true) true fuel t [v]=some x) :
    ∃ (xs:List Int) (b:AV),VR (startWR W) b v∧Capd b∧Sl (startW W) b 1 xs.length (xs.map fun n=>.int .i64 n):=by
  rcases slice_form hu hval with rfl|⟨b,off,len,cap,rfl,hlc,hex⟩
  · exact ⟨[],.nils,.nils,capd_nils,Sl.nil _ _⟩
  · rcases open_ints hu he hc h with ⟨h0,_⟩|⟨a,len',cap',zs,h0,_,_,_,hz,_,hcell,_⟩
    · cases h0
    · cases h0
      simp only [if_true] at hz
      have hlen:(zs.take len).length=len:=by rw [List.length_take];omega
      refine ⟨zs.take len,.sl (posN b) off len (some cap) 0,startW_arg (lt_of_block hex) hlc,(capd_sl hlc),?_⟩
      rw [hlen]
      refine startW_sl hex (by rw [List.length_map,hlen];omega) (fun k hk=>⟨.int .i64 (zs.getD k 0),?_,?_⟩)
      · rw [← add_at];exact hcell k (by omega)
      · rw [absV_i64,List.getElem?_map,List.getElem?_take_of_lt (by omega),List.getElem?_eq_getElem (by omega)]
        simp [show k<zs.length by omega]

def pairCells (sp:List (Int × Int)):List AV:=sp.flatMap fun p=>[.int .i64 p.1,.int .i64 p.2]
theorem xMv {W:World} {t:TypeId} {v:Value} {d:TypeDesc} (hu:P.underlying t=some d) (hs : ∀ fs,d ≠ .struct fs) (ha : ∀ n e,d ≠ .array n e) (h:Value.okWide P W r bs t v):Cell.okWide P W r bs t v:=by
  unfold Value.okWide at h
  rw [hu] at h
  cases d with
  | struct fs=>exact absurd rfl (hs fs)
  | array n e=>exact absurd rfl (ha n e)
  | _=>exact h
theorem slice_cells {W:World} {t e:TypeId} {v:Value} (hu:P.underlying t=some (.slice e)) (h:Cell.okWide P W r bs t v):v.cells.toList=[v]:=by
  rcases slice_form hu h with rfl|⟨b,off,len,cap,rfl,_⟩ <;> rfl
end
end Go.Ev
end

section
namespace Go.Ev
section
variable {P:Program}
theorem readM_of {m:Nat→Option AV} : ∀ {n off:Nat} {cs:List AV},cs.length=n→(∀ k,k<n→m (off+k)=cs[k]?)→readM m n off=some cs
  | 0,_,cs,hl,_=>by rw [List.eq_nil_of_length_eq_zero hl];rfl
  | n+1,off,[],hl,_=>by cases hl
  | n+1,off,c :: cs,hl,h=>by
    unfold readM
    have h0:=h 0 (by omega)
    rw [Nat.add_zero] at h0
    rw [h0]
    have ih:=readM_of (m:=m) (n:=n) (off:=off+1) (cs:=cs) (by simpa using hl) (fun k hk=>by
      have:=h (k+1) (by omega)
      rw [show off+1+k=off+(k+1) from by omega]
      simpa using this)
    simp only [List.getElem?_cons_zero]
    rw [show Nat.succ off=off+1 from rfl,ih]
theorem allOne_map {α : Type} {f : α → AV} (hf : ∀ a,oneB (f a)=true) : ∀ l:List α,allOne (l.map f)=true
  | []=>rfl
  | a :: l=>by rw [List.map_cons,yUy,hf a];exact allOne_map hf l

def Row (h:H) (v:AV) (m len:Nat) (cells:List AV):Prop:=Sl h v m len cells∨(len=0∧cells=[] ∧ ∃ id off esz,v = .sl id off 0 (some 0) esz)
theorem Row.up {h:H} (wf:Wf h) {v:AV} {m len:Nat} {cells:List AV} (s:Row h v m len cells) (l:List AO) (w:Nat):Row (X h l w) v m len cells:=by
  rcases s with s|s
  · exact .inl (s.up wf l w)
  · exact .inr s
theorem Row.len {h h':H} {v:AV} {m len:Nat} {cells:List AV} (s:Row h v m len cells) {t e:TypeId} (hu:P.underlying t=some (.slice e)):lenE P t v h'=some (.int .i64 (len:Int)):=by
  rcases s with s|⟨rfl,rfl,id,off,esz,rfl⟩
  · exact s.len hu
  · unfold lenE;rw [hu];rfl
theorem Row.sl {h:H} {v:AV} {m len:Nat} {cells:List AV} (s:Row h v m len cells) (h0:len≠0):Sl h v m len cells:=by
  rcases s with s|s
  · exact s
  · exact absurd s.1 h0
theorem Row.flat {h:H} {v:AV} {m len:Nat} {cells:List AV} (s:Row h v m len cells):AV.cells v=[v]∧oneB v=true:=by
  rcases s with ⟨_,⟨rfl,_⟩|⟨_,_,_,_,_,_,rfl,_⟩⟩|⟨_,_,_,_,_,rfl⟩ <;> exact ⟨rfl,rfl⟩
end
end Go.Ev
end
