import Derived.Test.YtmincoafjnnkpaawzM3
set_option linter.all false
section
namespace Go.Ev
open Go.ChangeShapes Go.WideShapes Go.ChangeAt Go.RowKit Go.Deep
section
variable {H:Type} {enc:TypeId × Value→H} {P:Program} {r:Reach} {bs:Nat}

end
end Go.Ev
end

section
namespace Go.Ev
open Go.ChangeShapes Go.WideShapes Go.ChangeAt Go.RowKit
section
variable {H:Type} {enc:TypeId × Value→H} {P:Program} {r:Reach} {bs:Nat}
theorem okWideIntIn {W:World} {t:TypeId} {k:IntKind} {v:Value} (hu:P.underlying t=some (.int k)) (h:Cell.okWide P W r bs t v) : ∃ n,v = .int k n∧k.has n:=by
  unfold Cell.okWide at h
  rw [hu] at h
  have h':Cell.ok P W r bs t v:=by cases v <;> exact h
  unfold Cell.ok at h'
  rw [hu] at h'
  cases v with
  | int k' n=>obtain ⟨rfl,hh⟩:=h';exact ⟨n,rfl,hh⟩
  | _=>exact h'.elim
end
end Go.Ev
end

section
namespace Go.Ev
section
variable {P:Program}
theorem zOv {α β : Type} {s:Sem α} {f : α → Sem β} : pureRun P (s >>= f)=(pureRun P s).bind fun a=>pureRun P (f a):=by
  show pureRun P (Sem.bind s f)=_
  induction s with
  | pure b=>rfl
  | program k ih=>exact ih P
  | _=>rfl
theorem yZx {α : Type} {a : α} : pureRun P (Pure.pure a:Sem α)=some a:=rfl
theorem pureRun_program :pureRun P program=some P:=rfl
theorem pureRun_isAgg {t:TypeId} {k:IntKind} (hu:P.underlying t=some (.int k)):pureRun P (isAgg t)=some false:=by
  unfold isAgg
  rw [zOv,zQz hu]
  rfl
theorem xUv {t:TypeId} {k:IntKind} {cs:Array Value} {off:Nat} {v:Value} (hu:P.underlying t=some (.int k)) (hv:cs[off]? = some v):pureRun P (part t cs off)=some v:=by
  unfold part
  rw [zOv,pureRun_isAgg hu]
  simp only [Option.bind_some,hv]
  rfl
end
end Go.Ev
end

section
namespace Go.Ev
section
variable {P:Program}
theorem zerosE_one (z:AV) : ∀ n,zerosE [z] n=List.replicate n z
  | 0=>rfl
  | n+1=>by show [z]++zerosE [z] n=_;rw [zerosE_one z n];rfl
end
end Go.Ev
end

section
namespace Go.Ev
section
variable {P:Program}
end
end Go.Ev
end

section
namespace Go.Ev
theorem bp :type_of% (And.intro (And.intro (And.intro (And.intro (@List.append_assoc.{0}) (@List.length_append.{0})) (And.intro (@List.length_cons.{0}) (@List.length_nil.{0}))) (And.intro (And.intro (@List.cons_append.{0}) (@List.nil_append.{0})) (And.intro (@List.append_nil.{0}) (And.intro (@List.getElem?_cons_zero.{0}) (@List.getElem?_cons_succ.{0}))))) (And.intro (And.intro (And.intro (@List.set_cons_zero.{0}) (@List.set_cons_succ.{0})) (And.intro (@List.drop_zero.{0}) (@List.drop_succ_cons.{0}))) (And.intro (And.intro (@List.take_zero.{0}) (@List.take_succ_cons.{0})) (And.intro (@List.take_nil.{0}) (And.intro (@List.drop_nil.{0}) (@List.toList_toArray.{0})))))):=And.intro (And.intro (And.intro (And.intro (@List.append_assoc.{0}) (@List.length_append.{0})) (And.intro (@List.length_cons.{0}) (@List.length_nil.{0}))) (And.intro (And.intro (@List.cons_append.{0}) (@List.nil_append.{0})) (And.intro (@List.append_nil.{0}) (And.intro (@List.getElem?_cons_zero.{0}) (@List.getElem?_cons_succ.{0}))))) (And.intro (And.intro (And.intro (@List.set_cons_zero.{0}) (@List.set_cons_succ.{0})) (And.intro (@List.drop_zero.{0}) (@List.drop_succ_cons.{0}))) (And.intro (And.intro (@List.take_zero.{0}) (@List.take_succ_cons.{0})) (And.intro (@List.take_nil.{0}) (And.intro (@List.drop_nil.{0}) (@List.toList_toArray.{0})))))

section
variable {P:Program}
def Cape (m:Nat) (a:AV):Prop:=∀ id off l esz,a = .sl id off l none esz→esz=m
theorem Capd.cape {a:AV} (h:Capd a) (m:Nat):Cape m a:=fun id off l esz e=>absurd e (h.1 id off l esz)
theorem Sl.srcE {h:H} {a:AV} {m len:Nat} {cells:List AV} (s:Sl h a m len cells) (hc:Cape m a) {t e:TypeId} (hu:P.underlying t=some (.slice e)) (hz:sizeE P e=some m):srcCells h m (reszT P t a)=some (len,cells):=by
  obtain ⟨hl,⟨rfl,rfl⟩|⟨id,off,cap,esz,o,cs,rfl,hg,hcs,hx⟩⟩:=s
  · rw [xBv,List.eq_nil_of_length_eq_zero (by omega:cells.length=0)];rfl
  · cases cap with
    | none=>
      rw [yTv]
      exact src_sl hg hcs (readM_of hl hx) (hc _ _ _ _ rfl)
    | some c=>
      rw [xGv hu hz]
      exact src_sl hg hcs (readM_of hl hx) rfl
end
end Go.Ev
end

section
namespace Go.Proofs.Ytmincoafjnnkpaa
open Go.Ev
noncomputable def cW :Con:=⟨15,[],[],(.bool true),[]⟩
noncomputable def KK :List Con:=[cW]
end Go.Proofs.Ytmincoafjnnkpaa
end
