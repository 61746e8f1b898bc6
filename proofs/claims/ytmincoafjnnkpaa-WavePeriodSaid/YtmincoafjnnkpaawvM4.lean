import Derived.Test.YtmincoafjnnkpaawvM3
set_option linter.all false
section
namespace Go.Ev
open Go.ChangeShapes Go.WideShapes Go.ChangeAt Go.RowKit Go.Deep
section
variable {H:Type} {enc:TypeId × Value→H} {P:Program} {r:Reach} {bs:Nat}

end
end Go.Ev
end

section
namespace Go.Ev
open Go.ChangeShapes Go.WideShapes Go.ChangeAt Go.RowKit
section
variable {H:Type} {enc:TypeId × Value→H} {P:Program} {r:Reach} {bs:Nat}
theorem okWideIntIn {W:World} {t:TypeId} {k:IntKind} {v:Value} (hu:P.underlying t=some (.int k)) (h:Cell.okWide P W r bs t v) : ∃ n,v = .int k n∧k.has n:=by
  unfold Cell.okWide at h
  rw [hu] at h
  have h':Cell.ok P W r bs t v:=by cases v <;> exact h
  unfold Cell.ok at h'
  rw [hu] at h'
  cases v with
  | int k' n=>obtain ⟨rfl,hh⟩:=h';exact ⟨n,rfl,hh⟩
  | _=>exact h'.elim
end
end Go.Ev
end

section
namespace Go.Ev
section
variable {P:Program}
theorem zLx {α β : Type} {s:Sem α} {f : α → Sem β} : pureRun P (s >>= f)=(pureRun P s).bind fun a=>pureRun P (f a):=by
  show pureRun P (Sem.bind s f)=_
  induction s with
  | pure b=>rfl
  | program k ih=>exact ih P
  | _=>rfl
theorem yRy {α : Type} {a : α} : pureRun P (Pure.pure a:Sem α)=some a:=rfl
theorem xGw :pureRun P program=some P:=rfl
theorem pureRun_isAgg {t:TypeId} {k:IntKind} (hu:P.underlying t=some (.int k)):pureRun P (isAgg t)=some false:=by
  unfold isAgg
  rw [zLx,zMx hu]
  rfl
theorem xBz {t:TypeId} {k:IntKind} {cs:Array Value} {off:Nat} {v:Value} (hu:P.underlying t=some (.int k)) (hv:cs[off]? = some v):pureRun P (part t cs off)=some v:=by
  unfold part
  rw [zLx,pureRun_isAgg hu]
  simp only [Option.bind_some,hv]
  rfl
end
end Go.Ev
end

section
namespace Go.Ev
section
variable {P:Program}
theorem zerosE_one (z:AV) : ∀ n,zerosE [z] n=List.replicate n z
  | 0=>rfl
  | n+1=>by show [z]++zerosE [z] n=_;rw [zerosE_one z n];rfl
end
end Go.Ev
end

section
namespace Go.Ev
section
variable {P:Program}
end
end Go.Ev
end

section
namespace Go.Ev
theorem bp :type_of% (And.intro (And.intro (And.intro (And.intro (@List.append_assoc.{0}) (@List.length_append.{0})) (And.intro (@List.length_cons.{0}) (@List.length_nil.{0}))) (And.intro (And.intro (@List.cons_append.{0}) (@List.nil_append.{0})) (And.intro (@List.append_nil.{0}) (And.intro (@List.getElem?_cons_zero.{0}) (@List.getElem?_cons_succ.{0}))))) (And.intro (And.intro (And.intro (@List.set_cons_zero.{0}) (@List.set_cons_succ.{0})) (And.intro (@List.drop_zero.{0}) (@List.drop_succ_cons.{0}))) (And.intro (And.intro (@List.take_zero.{0}) (@List.take_succ_cons.{0})) (And.intro (@List.take_nil.{0}) (And.intro (@List.drop_nil.{0}) (@List.toList_toArray.{0})))))):=And.intro (And.intro (And.intro (And.intro (@List.append_assoc.{0}) (@List.length_append.{0})) (And.intro (@List.length_cons.{0}) (@List.length_nil.{0}))) (And.intro (And.intro (@List.cons_append.{0}) (@List.nil_append.{0})) (And.intro (@List.append_nil.{0}) (And.intro (@List.getElem?_cons_zero.{0}) (@List.getElem?_cons_succ.{0}))))) (And.intro (And.intro (And.intro (@List.set_cons_zero.{0}) (@List.set_cons_succ.{0})) (And.intro (@List.drop_zero.{0}) (@List.drop_succ_cons.{0}))) (And.intro (And.intro (@List.take_zero.{0}) (@List.take_succ_cons.{0})) (And.intro (@List.take_nil.{0}) (And.intro (@List.drop_nil.{0}) (@List.toList_toArray.{0})))))

section
variable {P:Program}
def Cape (m:Nat) (a:AV):Prop:=∀ id off l esz,a = .sl id off l none esz→esz=m
theorem Capd.cape {a:AV} (h:Capd a) (m:Nat):Cape m a:=fun id off l esz e=>absurd e (h.1 id off l esz)
theorem Sl.srcE {h:H} {a:AV} {m len:Nat} {cells:List AV} (s:Sl h a m len cells) (hc:Cape m a) {t e:TypeId} (hu:P.underlying t=some (.slice e)) (hz:sizeE P e=some m):srcCells h m (reszT P t a)=some (len,cells):=by
  obtain ⟨hl,⟨rfl,rfl⟩|⟨id,off,cap,esz,o,cs,rfl,hg,hcs,hx⟩⟩:=s
  · rw [yYy,List.eq_nil_of_length_eq_zero (by omega:cells.length=0)];rfl
  · cases cap with
    | none=>
      rw [yUw]
      exact src_sl hg hcs (readM_of hl hx) (hc _ _ _ _ rfl)
    | some c=>
      rw [yUx hu hz]
      exact src_sl hg hcs (readM_of hl hx) rfl
theorem Grow.appendK {h:H} (wf:Wf h) {L0 G:List AO} {v:AV} {sz e len bytes:Nat} {z:AV} {cs:List AV} (g:Grow h L0 G v sz e len cs) {t:TypeId} (hu:P.underlying t=some (.slice e)) (hz:sizeE P e=some sz) (E:El P e sz bytes z)
    {n:Nat} {new:List AV} {x:AV} (hn:len+n≤10000000) (hn0:n≠0) (hb:bytes≤100000) (hc:new.length=n * sz) (ho:allOne new=true) (hs : ∀ w,srcCells (X h (L0++G) w) sz x=some (n,new)) :
    ∃ v' G',Grow h L0 G' v' sz e (len+n) (cs++new)∧(∀ (j:Nat) m' e',e'≠e→G[j]? = some (AO.cells m' e')→G'[j]? = some (AO.cells m' e'))∧(∀ w,h.clock≤w → ∃ w',h.clock≤w'∧w'≤w∧appendE P t v x (X h (L0++G) w) = .ok v' (X h (L0++G') w')):=by
  obtain ⟨hl,⟨rfl,rfl⟩|⟨idx,rfl,hg⟩⟩:=g
  · have hcs:cs=[]:=List.length_eq_zero_iff.1 (by simpa using hl)
    subst hcs
    refine ⟨.sl (nx h (L0.length+G.length)) 0 n none sz,G++[.cells (zBz new) e],⟨by simpa using hc,.inr ⟨G.length,by rw [Nat.zero_add],by simp⟩⟩,fun j m' e' _ hj=>by rw [List.getElem?_append_left (List.getElem?_eq_some_iff.1 hj).1];exact hj,fun w hw=>⟨w,hw,Nat.le_refl w,?_⟩⟩
    have:=xFx (P:=P) wf hu hz E (x:=x) (l:=L0++G) (w:=w) (by omega) hn0 hb (hs w) hc
    rw [List.length_append,List.append_assoc] at this
    exact this
  · have hi:=(List.getElem?_eq_some_iff.1 hg).1
    refine ⟨.sl (nx h (L0.length+G.length)) 0 (len+n) none sz,G.set idx .dead++[.cells (zBz (cs++new)) e],⟨by rw [List.length_append,hl,hc,Nat.add_mul],.inr ⟨G.length,rfl,?_⟩⟩,fun j m' e' he hj=>?_,fun w hw=>⟨min (h.clock+(L0.length+idx)) w,by omega,Nat.min_le_right _ _,?_⟩⟩
    rotate_right 1
    · have:=yWy (P:=P) wf hu hz E (x:=x) (k:=L0.length+idx) (l:=L0++G) (w:=w) hn hn0 hb (by rw [xOz];exact hg) hl (hs w) hc ho
      rw [List.length_append,xEz,List.append_assoc] at this
      exact this
    · rw [List.getElem?_append_right (by simp)];simp
    · have hne:idx≠j:=fun e1=>by
        subst e1
        rw [hg] at hj
        cases hj
        exact he rfl
      rw [List.getElem?_append_left (by rw [List.length_set];exact (List.getElem?_eq_some_iff.1 hj).1),List.getElem?_set_ne hne]
      exact hj
end
end Go.Ev
end

section
namespace Go.Proofs.Ytmincoafjnnkpaa
open Go.Ev
noncomputable def cW :Con:=⟨15,[],[],(.bool true),[]⟩
noncomputable def KK :List Con:=[cW]
end Go.Proofs.Ytmincoafjnnkpaa
end
