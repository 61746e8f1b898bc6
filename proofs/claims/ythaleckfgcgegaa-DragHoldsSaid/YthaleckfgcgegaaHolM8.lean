/- The statement DragHolds of layer 4: how many tests surely hold their limits, and how many can, are what the definition says, or the error, for all tests, lines and limits; no condition. -/
import Derived.Test.YthaleckfgcgegaaHolM7
import Derived.Test.YthaleckfgcgegaaRows
import Derived.WalkKit
import Derived.ProofKit
import Derived.OpenShut
set_option linter.all false
section
namespace Go.Proofs.Ythaleckfgcgegaa
open Go.Ev
set_option maxRecDepth 100000
set_option linter.unusedSimpArgs false
set_option linter.unusedVariables false
set_option maxHeartbeats 2000000
theorem tEvD32 :type_of% (And.intro (And.intro (And.intro (And.intro (And.intro (And.intro (And.intro (@yWz) (@yVv)) (And.intro (@yVw) (And.intro (@yVx) (@yVy)))) (And.intro (And.intro (@yVz) (And.intro (@yUv) (@yUw))) (And.intro (@zVy) (And.intro (@ia_2) (@sz_2))))) (And.intro (And.intro (And.intro (@ia_3) (@sz_3)) (And.intro (@ia_4) (And.intro (@sz_4) (@yUx)))) (And.intro (And.intro (@yDw) (And.intro (@yUy) (@yDx))) (And.intro (@yUz) (And.intro (@yDy) (@yTv)))))) (And.intro (And.intro (And.intro (And.intro (@zWw) (@yTw)) (And.intro (@yDz) (And.intro (@yTx) (@yCv)))) (And.intro (And.intro (@yTy) (And.intro (@yCw) (@yTz))) (And.intro (@yCx) (And.intro (@ySv) (@yCy))))) (And.intro (And.intro (And.intro (@ySw) (And.intro (@yCz) (@ySx))) (And.intro (@zXz) (And.intro (@ySy) (@yBv)))) (And.intro (And.intro (@ySz) (And.intro (@yBw) (@yRv))) (And.intro (@yBx) (And.intro (@yRw) (@yBy))))))) (And.intro (And.intro (And.intro (And.intro (And.intro (@yRx) (@yBz)) (And.intro (@yRy) (And.intro (@yAv) (@yRz)))) (And.intro (And.intro (@yAw) (And.intro (@yQv) (@yAx))) (And.intro (@yQw) (And.intro (@yAy) (@yQx))))) (And.intro (And.intro (And.intro (@yAz) (@zVz)) (And.intro (@zTw) (And.intro (@zUv) (@zTx)))) (And.intro (And.intro (@zUw) (And.intro (@zTy) (@zUx))) (And.intro (@zTz) (And.intro (@zUy) (@zSv)))))) (And.intro (And.intro (And.intro (And.intro (@zUz) (@zSw)) (And.intro (@zTv) (And.intro (@zSx) (@ze_2)))) (And.intro (And.intro (@ze_3) (And.intro (@ze_4) (@zZv))) (And.intro (@zZw) (And.intro (@zZx) (@zZy))))) (And.intro (And.intro (And.intro (@zZz) (And.intro (@zYv) (@xDx))) (And.intro (@zYw) (And.intro (@zYx) (@zYy)))) (And.intro (And.intro (@zSy) (And.intro (@zRx) (@zRy))) (And.intro (@zRz) (And.intro (@zQv) (@zQw)))))))) (And.intro (And.intro (And.intro (And.intro (And.intro (And.intro (@zQx) (@zQy)) (And.intro (@zQz) (And.intro (@zPv) (@zPw)))) (And.intro (And.intro (@zPx) (And.intro (@zPy) (@zPz))) (And.intro (@zOv) (And.intro (@zOw) (@zOx))))) (And.intro (And.intro (And.intro (@zOy) (@zOz)) (And.intro (@zNv) (And.intro (@zNw) (@zNx)))) (And.intro (And.intro (@zNy) (And.intro (@zNz) (@zMv))) (And.intro (@zMw) (And.intro (@zMx) (@zMy)))))) (And.intro (And.intro (And.intro (And.intro (@zMz) (@yQy)) (And.intro (@yQz) (And.intro (@yPv) (@yPw)))) (And.intro (And.intro (@yPx) (And.intro (@yPy) (@yPz))) (And.intro (@yOv) (And.intro (@yOw) (@yOx))))) (And.intro (And.intro (And.intro (@yOy) (And.intro (@yOz) (@yNv))) (And.intro (@yNw) (And.intro (@yNx) (@yNy)))) (And.intro (And.intro (@yNz) (And.intro (@yMv) (@yMw))) (And.intro (@yMx) (And.intro (@yMy) (@yMz))))))) (And.intro (And.intro (And.intro (And.intro (And.intro (@yLv) (@yLw)) (And.intro (@yLx) (And.intro (@yLy) (@yLz)))) (And.intro (And.intro (@yKv) (And.intro (@yKw) (@yKx))) (And.intro (@yKy) (And.intro (@yKz) (@yJv))))) (And.intro (And.intro (And.intro (@yJw) (@yJx)) (And.intro (@yJy) (And.intro (@yJz) (@yIv)))) (And.intro (And.intro (@yIw) (And.intro (@yIx) (@yIy))) (And.intro (@yIz) (And.intro (@yHv) (@yHw)))))) (And.intro (And.intro (And.intro (And.intro (@yHx) (@yHy)) (And.intro (@yHz) (And.intro (@yGv) (@yGw)))) (And.intro (And.intro (@yGx) (And.intro (@zYz) (@zXv))) (And.intro (@yGy) (And.intro (@yGz) (@yFv))))) (And.intro (And.intro (And.intro (@yFw) (And.intro (@yFx) (@yFy))) (And.intro (@yFz) (And.intro (@yEv) (@yEw)))) (And.intro (And.intro (@yEx) (And.intro (@yEy) (@zXw))) (And.intro (@yEz) (And.intro (@yDv) (@zXx))))))))):=And.intro (And.intro (And.intro (And.intro (And.intro (And.intro (And.intro (@yWz) (@yVv)) (And.intro (@yVw) (And.intro (@yVx) (@yVy)))) (And.intro (And.intro (@yVz) (And.intro (@yUv) (@yUw))) (And.intro (@zVy) (And.intro (@ia_2) (@sz_2))))) (And.intro (And.intro (And.intro (@ia_3) (@sz_3)) (And.intro (@ia_4) (And.intro (@sz_4) (@yUx)))) (And.intro (And.intro (@yDw) (And.intro (@yUy) (@yDx))) (And.intro (@yUz) (And.intro (@yDy) (@yTv)))))) (And.intro (And.intro (And.intro (And.intro (@zWw) (@yTw)) (And.intro (@yDz) (And.intro (@yTx) (@yCv)))) (And.intro (And.intro (@yTy) (And.intro (@yCw) (@yTz))) (And.intro (@yCx) (And.intro (@ySv) (@yCy))))) (And.intro (And.intro (And.intro (@ySw) (And.intro (@yCz) (@ySx))) (And.intro (@zXz) (And.intro (@ySy) (@yBv)))) (And.intro (And.intro (@ySz) (And.intro (@yBw) (@yRv))) (And.intro (@yBx) (And.intro (@yRw) (@yBy))))))) (And.intro (And.intro (And.intro (And.intro (And.intro (@yRx) (@yBz)) (And.intro (@yRy) (And.intro (@yAv) (@yRz)))) (And.intro (And.intro (@yAw) (And.intro (@yQv) (@yAx))) (And.intro (@yQw) (And.intro (@yAy) (@yQx))))) (And.intro (And.intro (And.intro (@yAz) (@zVz)) (And.intro (@zTw) (And.intro (@zUv) (@zTx)))) (And.intro (And.intro (@zUw) (And.intro (@zTy) (@zUx))) (And.intro (@zTz) (And.intro (@zUy) (@zSv)))))) (And.intro (And.intro (And.intro (And.intro (@zUz) (@zSw)) (And.intro (@zTv) (And.intro (@zSx) (@ze_2)))) (And.intro (And.intro (@ze_3) (And.intro (@ze_4) (@zZv))) (And.intro (@zZw) (And.intro (@zZx) (@zZy))))) (And.intro (And.intro (And.intro (@zZz) (And.intro (@zYv) (@xDx))) (And.intro (@zYw) (And.intro (@zYx) (@zYy)))) (And.intro (And.intro (@zSy) (And.intro (@zRx) (@zRy))) (And.intro (@zRz) (And.intro (@zQv) (@zQw)))))))) (And.intro (And.intro (And.intro (And.intro (And.intro (And.intro (@zQx) (@zQy)) (And.intro (@zQz) (And.intro (@zPv) (@zPw)))) (And.intro (And.intro (@zPx) (And.intro (@zPy) (@zPz))) (And.intro (@zOv) (And.intro (@zOw) (@zOx))))) (And.intro (And.intro (And.intro (@zOy) (@zOz)) (And.intro (@zNv) (And.intro (@zNw) (@zNx)))) (And.intro (And.intro (@zNy) (And.intro (@zNz) (@zMv))) (And.intro (@zMw) (And.intro (@zMx) (@zMy)))))) (And.intro (And.intro (And.intro (And.intro (@zMz) (@yQy)) (And.intro (@yQz) (And.intro (@yPv) (@yPw)))) (And.intro (And.intro (@yPx) (And.intro (@yPy) (@yPz))) (And.intro (@yOv) (And.intro (@yOw) (@yOx))))) (And.intro (And.intro (And.intro (@yOy) (And.intro (@yOz) (@yNv))) (And.intro (@yNw) (And.intro (@yNx) (@yNy)))) (And.intro (And.intro (@yNz) (And.intro (@yMv) (@yMw))) (And.intro (@yMx) (And.intro (@yMy) (@yMz))))))) (And.intro (And.intro (And.intro (And.intro (And.intro (@yLv) (@yLw)) (And.intro (@yLx) (And.intro (@yLy) (@yLz)))) (And.intro (And.intro (@yKv) (And.intro (@yKw) (@yKx))) (And.intro (@yKy) (And.intro (@yKz) (@yJv))))) (And.intro (And.intro (And.intro (@yJw) (@yJx)) (And.intro (@yJy) (And.intro (@yJz) (@yIv)))) (And.intro (And.intro (@yIw) (And.intro (@yIx) (@yIy))) (And.intro (@yIz) (And.intro (@yHv) (@yHw)))))) (And.intro (And.intro (And.intro (And.intro (@yHx) (@yHy)) (And.intro (@yHz) (And.intro (@yGv) (@yGw)))) (And.intro (And.intro (@yGx) (And.intro (@zYz) (@zXv))) (And.intro (@yGy) (And.intro (@yGz) (@yFv))))) (And.intro (And.intro (And.intro (@yFw) (And.intro (@yFx) (@yFy))) (And.intro (@yFz) (And.intro (@yEv) (@yEw)))) (And.intro (And.intro (@yEx) (And.intro (@yEy) (@zXw))) (And.intro (@yEz) (And.intro (@yDv) (@zXx))))))))
def cntH (vs ms:List Int):Nat→Nat
  | 0=>0
  | i+1=>if cntH vs ms i=i∧vs.getD i 0≤ms.getD i 0 then cntH vs ms i+1 else cntH vs ms i
theorem xEx (vs ms:List Int) (i:Nat):cntH vs ms (i+1)=if cntH vs ms i=i∧vs.getD i 0≤ms.getD i 0 then cntH vs ms i+1 else cntH vs ms i:=rfl
theorem cntH_ok {vs ms:List Int} : ∀ {i:Nat},(∀ j,j<i→vs.getD j 0≤ms.getD j 0)→cntH vs ms i=i
  | 0,_=>rfl
  | i+1,h=>by
    have:=cntH_ok (vs:=vs) (ms:=ms) (i:=i) fun j hj=>h j (by omega)
    rw [xEx,if_pos ⟨this,h i (by omega)⟩,this]
theorem cntH_bad {vs ms:List Int} {k:Nat} (hg : ∀ j,j<k→vs.getD j 0≤ms.getD j 0) (hb : ¬ vs.getD k 0≤ms.getD k 0) : ∀ {i:Nat},k<i→cntH vs ms i=k
  | i+1,h=>by
    by_cases e:k=i
    · subst e
      have:=cntH_ok hg
      rw [xEx,if_neg (fun q=>hb q.2),this]
    · have:=cntH_bad hg hb (i:=i) (by omega)
      rw [xEx,if_neg (fun q=>by omega),this]
theorem cntH_all {vs ms:List Int} (h:vs.length≤ms.length):cntH vs ms vs.length=holdN vs ms:=by
  by_cases hall : ∀ j,j<vs.length→vs.getD j 0≤ms.getD j 0
  · rw [cntH_ok hall,holdN_all h hall]
  · obtain ⟨k,hk,hb,hg⟩:=firstNot hall
    rw [cntH_bad hg hb hk,holdN_at hk h hg (by omega)]
theorem cntH_le (vs ms:List Int) : ∀ i,cntH vs ms i≤i
  | 0=>Nat.le_refl _
  | i+1=>by
    have:=cntH_le vs ms i
    rw [xEx];split <;> omega
def holdsErr' (ts:List Te) (ls:List Ln) (n:Nat):Int:=if 20<ts.length then 6 else if ¬ ∀ t ∈ ts,okT t then 2 else if linesErr ls≠0 then linesErr ls else if n≠ts.length then 15 else if ∀ t ∈ ts,rk t ls then 0 else 19
def holdsV (ts:List Te) (ls:List Ln) (ms:List Int) (high:Bool):Int:=if holdsErr' ts ls ms.length=0 then (holdN (ts.map fun t=>spanV t ls high) ms:Nat) else 0
theorem Holds (s lv q:AV) (hcap:Capd q) (ts:List Te) (ls:List Ln) (ms:List Int) (h:H) (xt:TestsR h s ts) (xl:LinesR h lv ls) (hq:Sl h q 1 ms.length (ms.map ii)) :
    (om Try.prog KK).call (.fn 30 [s,lv,q]) h = .ok (.tup [ii (holdsV ts ls ms true),ii (holdsV ts ls ms false),ii (holdsErr' ts ls ms.length)]) h:=by
  by_cases h1:20<ts.length
  · have e:holdsErr' ts ls ms.length=6:=if_pos h1
    rw [HoldsE1 s lv q ts ls ms h xt xl hq h1]
    simp [holdsV,e]
  by_cases h2 : ∀ t ∈ ts,okT t
  · by_cases h3:linesErr ls=0
    · by_cases h4:ms.length=ts.length
      · by_cases h5 : ∀ t ∈ ts,rk t ls
        · have e:holdsErr' ts ls ms.length=0:=by unfold holdsErr';rw [if_neg h1,if_neg (not_not_intro h2),if_neg (not_not_intro h3),if_neg (not_not_intro h4),if_pos h5]
          rw [Holds2 s lv q hcap ts ls ms h xt xl hq (by omega) h2 (yWv.1 h3) h4 h5]
          have e1:(spansOf ts ls).map (·.2)=ts.map fun t=>spanV t ls true:=by unfold spansOf;rw [List.map_map];rfl
          have e2:(spansOf ts ls).map (·.1)=ts.map fun t=>spanV t ls false:=by unfold spansOf;rw [List.map_map];rfl
          rw [e1,e2]
          simp [holdsV,e]
        · have e:holdsErr' ts ls ms.length=19:=by unfold holdsErr';rw [if_neg h1,if_neg (not_not_intro h2),if_neg (not_not_intro h3),if_neg (not_not_intro h4),if_neg h5]
          rw [HoldsE5 s lv q hcap ts ls ms h xt xl hq (by omega) h2 (yWv.1 h3) h4 h5]
          simp [holdsV,e]
      · have e:holdsErr' ts ls ms.length=15:=by unfold holdsErr';rw [if_neg h1,if_neg (not_not_intro h2),if_neg (not_not_intro h3),if_pos h4]
        rw [HoldsE4 s lv q ts ls ms h xt xl hq (by omega) h2 h3 h4]
        simp [holdsV,e]
    · have e:holdsErr' ts ls ms.length=linesErr ls:=by unfold holdsErr';rw [if_neg h1,if_neg (not_not_intro h2),if_pos h3]
      rw [HoldsE3 s lv q ts ls ms h xt xl hq (by omega) h2 h3]
      simp [holdsV,e,h3]
  · have e:holdsErr' ts ls ms.length=2:=by unfold holdsErr';rw [if_neg h1,if_pos h2]
    rw [HoldsE2 s lv q ts ls ms h xt xl hq (by omega) h2]
    simp [holdsV,e]

theorem refHolds (s lv q:AV) (hcap:Capd q) (ts:List Te) (ls:List Ln) (ms:List Int) (h:H) (xt:TestsR h s ts) (xl:LinesR h lv ls) (hq:Sl h q 1 ms.length (ms.map ii)) :
    (om Try.prog KK).call (.fn 31 [s,lv,q]) h = .ok (.tup [ii (holdsV ts ls ms true),ii (holdsV ts ls ms false),ii (holdsErr' ts ls ms.length)]) h:=by
  have wf:=xt.wf
  have hls : ∀ h',lenE Try.prog 51 s h'=some (ii (ts.length:Int)):=fun h'=>xt.sl.len un_51
  have hlq : ∀ h',lenE Try.prog 22 q h'=some (ii (ms.length:Int)):=fun h'=>hq.len yZw
  refine zWy (zLx (fn:=Try.f31) Try.func31 rfl rfl rfl rfl rfl ?_)
  simp only [zLy]
  by_cases h1:20<ts.length
  · have e:holdsErr' ts ls ms.length=6:=if_pos h1
    have e2 : ∀ b,holdsV ts ls ms b=0:=fun b=>if_neg (by omega)
    rw [e,e2,e2]
    (repeat' (first
  | (with_reducible first|refine zJw ?_|refine zHz ?_|refine zEv ?_|refine zEw ?_|refine zFz ?_|refine zJv ?_|refine zHy ?_|refine zBv ?_|refine zDx ?_|refine zCz ?_|refine zCw ?_|refine zEy ?_|refine zCv ?_|refine zCy ?_|refine zBy ?_|refine zDv ?_|refine zEz ?_|refine zAw ?_|refine zBz ?_)
  | refine zDz ?_|refine zEx rfl ?_|refine zJy ?_|refine zJx ?_
  | ((first|refine zGv rfl rfl rfl rfl rfl fun K_ hK_=>?_|refine zGw rfl rfl rfl rfl rfl fun K_ hK_=>?_);simp only [zAz,zDy,zGx,↓reduceIte,reduceCtorEq,Nat.reduceEqDiff,Bool.not_true,Bool.not_false];refine hK_ _ ?_;clear hK_ K_)
  | refine zDw (by decide) ?_
  | ((try first|refine zKy rfl rfl rfl ?_|refine zJz rfl rfl ?_|refine zKx rfl rfl rfl ?_|refine zIv rfl rfl ?_);(refine zIw fun Q_ hQ_=>?_;simp (disch:=first|omega|(simp only [List.length_cons,List.length_nil,List.length_append];omega)) only [bb,bp,zLy,↓reduceIte,reduceCtorEq,Nat.reduceEqDiff,Nat.reduceLT,Nat.reduceLeDiff,Nat.reduceAdd,Nat.reduceMul,Nat.reduceSub,Nat.reduceBEq,Int.reduceToNat,cond_true,cond_false,eq_self,beq_self_eq_true,hls,zFx wf,zGy wf,zBw wf,zFy wf,zAy wf,zAx,tEvD32,zIx,zIy,zIz,zHv,zFv,zAv wf];first|(refine zCx (Q:=Q_) (fun hp_=>?_) (fun hp_=>?_) <;> first|(exfalso;omega)|(refine hQ_ _ _ ?_;clear hQ_ Q_))|(refine zBx (Q:=Q_) (fun hp_=>?_) (fun hp_=>?_) <;> first|(exfalso;omega)|(refine hQ_ _ _ ?_;clear hQ_ Q_))|(refine hQ_ _ _ ?_;clear hQ_ Q_)))
  | (refine zHx fun K_ hK_=>?_;simp (disch:=omega) only [zGz,zAz,zHw,↓reduceIte,reduceCtorEq,Nat.reduceEqDiff,Nat.reduceLT];refine hK_ _ ?_;clear hK_ K_)))
    (refine zKz _ _ rfl (ret3 (by decide) (by decide) (by decide)) ?_;simp only [zAz,↓reduceIte,reduceCtorEq,Nat.reduceEqDiff];refine zKw rfl (by omega) ?_)
    exact ⟨rfl,rfl⟩
  by_cases h2 : ∀ t ∈ ts,okT t
  · (repeat' (first
  | (with_reducible first|refine zJw ?_|refine zHz ?_|refine zEv ?_|refine zEw ?_|refine zFz ?_|refine zJv ?_|refine zHy ?_|refine zBv ?_|refine zDx ?_|refine zCz ?_|refine zCw ?_|refine zEy ?_|refine zCv ?_|refine zCy ?_|refine zBy ?_|refine zDv ?_|refine zEz ?_|refine zAw ?_|refine zBz ?_)
  | refine zDz ?_|refine zEx rfl ?_|refine zJy ?_|refine zJx ?_
  | ((first|refine zGv rfl rfl rfl rfl rfl fun K_ hK_=>?_|refine zGw rfl rfl rfl rfl rfl fun K_ hK_=>?_);simp only [zAz,zDy,zGx,↓reduceIte,reduceCtorEq,Nat.reduceEqDiff,Bool.not_true,Bool.not_false];refine hK_ _ ?_;clear hK_ K_)
  | refine zDw (by decide) ?_
  | ((try first|refine zKy rfl rfl rfl ?_|refine zJz rfl rfl ?_|refine zKx rfl rfl rfl ?_|refine zIv rfl rfl ?_);(refine zIw fun Q_ hQ_=>?_;simp (disch:=first|omega|(simp only [List.length_cons,List.length_nil,List.length_append];omega)) only [bb,bp,zLy,↓reduceIte,reduceCtorEq,Nat.reduceEqDiff,Nat.reduceLT,Nat.reduceLeDiff,Nat.reduceAdd,Nat.reduceMul,Nat.reduceSub,Nat.reduceBEq,Int.reduceToNat,cond_true,cond_false,eq_self,beq_self_eq_true,hls,zFx wf,zGy wf,zBw wf,zFy wf,zAy wf,zAx,tEvD32,zIx,zIy,zIz,zHv,zFv,zAv wf];first|(refine zCx (Q:=Q_) (fun hp_=>?_) (fun hp_=>?_) <;> first|(exfalso;omega)|(refine hQ_ _ _ ?_;clear hQ_ Q_))|(refine zBx (Q:=Q_) (fun hp_=>?_) (fun hp_=>?_) <;> first|(exfalso;omega)|(refine hQ_ _ _ ?_;clear hQ_ Q_))|(refine hQ_ _ _ ?_;clear hQ_ Q_)))
  | (refine zHx fun K_ hK_=>?_;simp (disch:=omega) only [zGz,zAz,zHw,↓reduceIte,reduceCtorEq,Nat.reduceEqDiff,Nat.reduceLT];refine hK_ _ ?_;clear hK_ K_)))
    refine zVw (fun (i:Nat) f d h'=>i≤ts.length∧f 0=s∧f 1=lv∧f 2=q∧f 9=ii (i:Int)∧d=[]∧h'=X h [] h.clock) (fun i=>ts.length - i) ?_ (ts.length+1) 0 (by omega) ?_
    · rintro i f d h' ⟨hi,g0,g1,g2,g9,rfl,rfl⟩
      by_cases hlt:i<ts.length
      · obtain ⟨id,off,hix,hld⟩:=xt.at hlt
        simp only [teC] at hld
        have e0:=zWx (h2 _ (List.getElem_mem hlt))
        generalize ts[i]=T at *
        (repeat' (first
  | (with_reducible first|refine zJw ?_|refine zHz ?_|refine zEv ?_|refine zEw ?_|refine zFz ?_|refine zJv ?_|refine zHy ?_|refine zBv ?_|refine zDx ?_|refine zCz ?_|refine zCw ?_|refine zEy ?_|refine zCv ?_|refine zCy ?_|refine zBy ?_|refine zDv ?_|refine zEz ?_|refine zAw ?_|refine zBz ?_)
  | refine zDz ?_|refine zEx rfl ?_|refine zJy ?_|refine zJx ?_
  | ((first|refine zGv rfl rfl rfl rfl rfl fun K_ hK_=>?_|refine zGw rfl rfl rfl rfl rfl fun K_ hK_=>?_);simp only [zAz,zDy,zGx,↓reduceIte,reduceCtorEq,Nat.reduceEqDiff,Bool.not_true,Bool.not_false];refine hK_ _ ?_;clear hK_ K_)
  | refine zDw (by decide) ?_
  | ((try first|refine zKy rfl rfl rfl ?_|refine zJz rfl rfl ?_|refine zKx rfl rfl rfl ?_|refine zIv rfl rfl ?_);(refine zIw fun Q_ hQ_=>?_;simp (disch:=first|omega|(simp only [List.length_cons,List.length_nil,List.length_append];omega)) only [bb,bp,zLy,↓reduceIte,reduceCtorEq,Nat.reduceEqDiff,Nat.reduceLT,Nat.reduceLeDiff,Nat.reduceAdd,Nat.reduceMul,Nat.reduceSub,Nat.reduceBEq,Int.reduceToNat,cond_true,cond_false,eq_self,beq_self_eq_true,g0,g1,g2,g9,hls,hix,hld,zFx wf,zGy wf,zBw wf,zFy wf,zAy wf,zAx,tEvD32,zIx,zIy,zIz,zHv,zFv,zAv wf];first|(refine zCx (Q:=Q_) (fun hp_=>?_) (fun hp_=>?_) <;> first|(exfalso;omega)|(refine hQ_ _ _ ?_;clear hQ_ Q_))|(refine zBx (Q:=Q_) (fun hp_=>?_) (fun hp_=>?_) <;> first|(exfalso;omega)|(refine hQ_ _ _ ?_;clear hQ_ Q_))|(refine hQ_ _ _ ?_;clear hQ_ Q_)|(refine zRv ((refCheckTest T _ (wf.X (by first|omega|(simp only [List.length_append,List.length_cons,List.length_nil];omega)))).trans (by rw [e0])) ?_;refine hQ_ _ _ ?_;clear hQ_ Q_)))
  | (refine zHx fun K_ hK_=>?_;simp (disch:=omega) only [zGz,zAz,zHw,↓reduceIte,reduceCtorEq,Nat.reduceEqDiff,Nat.reduceLT];refine hK_ _ ?_;clear hK_ K_)))
        refine zLz (i+1) (by omega) ⟨hlt,by simp only [zAz,↓reduceIte,reduceCtorEq,Nat.reduceEqDiff];exact g0,by simp only [zAz,↓reduceIte,reduceCtorEq,Nat.reduceEqDiff];exact g1,by simp only [zAz,↓reduceIte,reduceCtorEq,Nat.reduceEqDiff];exact g2,by simp only [zAz,↓reduceIte,reduceCtorEq,Nat.reduceEqDiff];rfl,rfl,rfl⟩
      · have hie:i=ts.length:=by omega
        by_cases h3:linesErr ls=0
        · have hk:=yWv.1 h3
          by_cases h4:ms.length=ts.length
          · have h4':(ms.length:Int)=(ts.length:Int):=by omega
            (repeat' (first
  | (with_reducible first|refine zJw ?_|refine zHz ?_|refine zEv ?_|refine zEw ?_|refine zFz ?_|refine zJv ?_|refine zHy ?_|refine zBv ?_|refine zDx ?_|refine zCz ?_|refine zCw ?_|refine zEy ?_|refine zCv ?_|refine zCy ?_|refine zBy ?_|refine zDv ?_|refine zEz ?_|refine zAw ?_|refine zBz ?_)
  | refine zDz ?_|refine zEx rfl ?_|refine zJy ?_|refine zJx ?_
  | ((first|refine zGv rfl rfl rfl rfl rfl fun K_ hK_=>?_|refine zGw rfl rfl rfl rfl rfl fun K_ hK_=>?_);simp only [zAz,zDy,zGx,↓reduceIte,reduceCtorEq,Nat.reduceEqDiff,Bool.not_true,Bool.not_false];refine hK_ _ ?_;clear hK_ K_)
  | refine zDw (by decide) ?_
  | ((try first|refine zKy rfl rfl rfl ?_|refine zJz rfl rfl ?_|refine zKx rfl rfl rfl ?_|refine zIv rfl rfl ?_);(refine zIw fun Q_ hQ_=>?_;simp (disch:=first|omega|(simp only [List.length_cons,List.length_nil,List.length_append];omega)) only [bb,bp,zLy,↓reduceIte,reduceCtorEq,Nat.reduceEqDiff,Nat.reduceLT,Nat.reduceLeDiff,Nat.reduceAdd,Nat.reduceMul,Nat.reduceSub,Nat.reduceBEq,Int.reduceToNat,cond_true,cond_false,eq_self,beq_self_eq_true,g0,g1,g2,g9,hls,hlq,zFx wf,zGy wf,zBw wf,zFy wf,zAy wf,zAx,tEvD32,zIx,zIy,zIz,zHv,zFv,zAv wf];first|(refine zCx (Q:=Q_) (fun hp_=>?_) (fun hp_=>?_) <;> first|(exfalso;omega)|(refine hQ_ _ _ ?_;clear hQ_ Q_))|(refine zBx (Q:=Q_) (fun hp_=>?_) (fun hp_=>?_) <;> first|(exfalso;omega)|(refine hQ_ _ _ ?_;clear hQ_ Q_))|(refine hQ_ _ _ ?_;clear hQ_ Q_)|(refine zRv ((refLines lv ls _ (xl.up _ _ (by first|omega|(simp only [List.length_append,List.length_cons,List.length_nil];omega)))).trans (by rw [h3])) ?_;refine hQ_ _ _ ?_;clear hQ_ Q_)))
  | (refine zHx fun K_ hK_=>?_;simp (disch:=omega) only [zGz,zAz,zHw,↓reduceIte,reduceCtorEq,Nat.reduceEqDiff,Nat.reduceLT];refine hK_ _ ?_;clear hK_ K_)))
            by_cases h5 : ∀ t ∈ ts,rk t ls
            · have e:holdsErr' ts ls ms.length=0:=by unfold holdsErr';rw [if_neg h1,if_neg (not_not_intro h2),if_neg (not_not_intro h3),if_neg (not_not_intro h4),if_pos h5]
              have v1:(ts.map fun t=>spanV t ls true).length=ts.length:=by simp
              have v2:(ts.map fun t=>spanV t ls false).length=ts.length:=by simp
              have w1 : ∀ j (hj:j<ts.length),(ts.map fun t=>spanV t ls true).getD j 0=spanV ts[j] ls true:=fun j hj=>by simp [List.getD,hj]
              have w2 : ∀ j (hj:j<ts.length),(ts.map fun t=>spanV t ls false).getD j 0=spanV ts[j] ls false:=fun j hj=>by simp [List.getD,hj]
              have d1:holdsV ts ls ms true=((cntH (ts.map fun t=>spanV t ls true) ms ts.length:Nat):Int):=by
                unfold holdsV
                rw [if_pos e,← cntH_all (by omega),v1]
              have d2:holdsV ts ls ms false=((cntH (ts.map fun t=>spanV t ls false) ms ts.length:Nat):Int):=by
                unfold holdsV
                rw [if_pos e,← cntH_all (by omega),v2]
              rw [e,d1,d2]
              generalize (ts.map fun t=>spanV t ls true)=vT at *
              generalize (ts.map fun t=>spanV t ls false)=vF at *
              refine zVw (fun (i:Nat) f d h'=>i≤ts.length∧f 0=s∧f 1=lv∧f 2=q∧f 10=ii (i:Int)∧d=[]∧h'=X h [] h.clock) (fun i=>ts.length - i) ?_ (ts.length+1) 0 (by omega) ?_
              · clear g0 g1 g2 g9
                rintro i f d h' ⟨hi,g0,g1,g2,g10,rfl,rfl⟩
                by_cases hlt:i<ts.length
                · obtain ⟨id,off,hix,hld⟩:=xt.at hlt
                  simp only [teC] at hld
                  have hT:=h2 _ (List.getElem_mem hlt)
                  have hR:=h5 _ (List.getElem_mem hlt)
                  clear w1 w2 d1 d2
                  generalize ts[i]=T at *
                  (repeat' (first
  | (with_reducible first|refine zJw ?_|refine zHz ?_|refine zEv ?_|refine zEw ?_|refine zFz ?_|refine zJv ?_|refine zHy ?_|refine zBv ?_|refine zDx ?_|refine zCz ?_|refine zCw ?_|refine zEy ?_|refine zCv ?_|refine zCy ?_|refine zBy ?_|refine zDv ?_|refine zEz ?_|refine zAw ?_|refine zBz ?_)
  | refine zDz ?_|refine zEx rfl ?_|refine zJy ?_|refine zJx ?_
  | ((first|refine zGv rfl rfl rfl rfl rfl fun K_ hK_=>?_|refine zGw rfl rfl rfl rfl rfl fun K_ hK_=>?_);simp only [zAz,zDy,zGx,↓reduceIte,reduceCtorEq,Nat.reduceEqDiff,Bool.not_true,Bool.not_false];refine hK_ _ ?_;clear hK_ K_)
  | refine zDw (by decide) ?_
  | ((try first|refine zKy rfl rfl rfl ?_|refine zJz rfl rfl ?_|refine zKx rfl rfl rfl ?_|refine zIv rfl rfl ?_);(refine zIw fun Q_ hQ_=>?_;simp (disch:=first|omega|(simp only [List.length_cons,List.length_nil,List.length_append];omega)) only [bb,bp,zLy,↓reduceIte,reduceCtorEq,Nat.reduceEqDiff,Nat.reduceLT,Nat.reduceLeDiff,Nat.reduceAdd,Nat.reduceMul,Nat.reduceSub,Nat.reduceBEq,Int.reduceToNat,cond_true,cond_false,eq_self,beq_self_eq_true,g0,g1,g2,g10,hls,hix,hld,zFx wf,zGy wf,zBw wf,zFy wf,zAy wf,zAx,tEvD32,zIx,zIy,zIz,zHv,zFv,zAv wf];first|(refine zCx (Q:=Q_) (fun hp_=>?_) (fun hp_=>?_) <;> first|(exfalso;omega)|(refine hQ_ _ _ ?_;clear hQ_ Q_))|(refine zBx (Q:=Q_) (fun hp_=>?_) (fun hp_=>?_) <;> first|(exfalso;omega)|(refine hQ_ _ _ ?_;clear hQ_ Q_))|(refine hQ_ _ _ ?_;clear hQ_ Q_)|(refine zRv ((Reckoned T hT lv ls hk _ (xl.up _ _ (by first|omega|(simp only [List.length_append,List.length_cons,List.length_nil];omega)))).trans (by rw [decide_eq_true hR])) ?_;refine hQ_ _ _ ?_;clear hQ_ Q_)))
  | (refine zHx fun K_ hK_=>?_;simp (disch:=omega) only [zGz,zAz,zHw,↓reduceIte,reduceCtorEq,Nat.reduceEqDiff,Nat.reduceLT];refine hK_ _ ?_;clear hK_ K_)))
                  refine zLz (i+1) (by omega) ⟨hlt,by simp only [zAz,↓reduceIte,reduceCtorEq,Nat.reduceEqDiff];exact g0,by simp only [zAz,↓reduceIte,reduceCtorEq,Nat.reduceEqDiff];exact g1,by simp only [zAz,↓reduceIte,reduceCtorEq,Nat.reduceEqDiff];exact g2,by simp only [zAz,↓reduceIte,reduceCtorEq,Nat.reduceEqDiff];rfl,rfl,rfl⟩
                · (repeat' (first
  | (with_reducible first|refine zJw ?_|refine zHz ?_|refine zEv ?_|refine zEw ?_|refine zFz ?_|refine zJv ?_|refine zHy ?_|refine zBv ?_|refine zDx ?_|refine zCz ?_|refine zCw ?_|refine zEy ?_|refine zCv ?_|refine zCy ?_|refine zBy ?_|refine zDv ?_|refine zEz ?_|refine zAw ?_|refine zBz ?_)
  | refine zDz ?_|refine zEx rfl ?_|refine zJy ?_|refine zJx ?_
  | ((first|refine zGv rfl rfl rfl rfl rfl fun K_ hK_=>?_|refine zGw rfl rfl rfl rfl rfl fun K_ hK_=>?_);simp only [zAz,zDy,zGx,↓reduceIte,reduceCtorEq,Nat.reduceEqDiff,Bool.not_true,Bool.not_false];refine hK_ _ ?_;clear hK_ K_)
  | refine zDw (by decide) ?_
  | ((try first|refine zKy rfl rfl rfl ?_|refine zJz rfl rfl ?_|refine zKx rfl rfl rfl ?_|refine zIv rfl rfl ?_);(refine zIw fun Q_ hQ_=>?_;simp (disch:=first|omega|(simp only [List.length_cons,List.length_nil,List.length_append];omega)) only [bb,bp,zLy,↓reduceIte,reduceCtorEq,Nat.reduceEqDiff,Nat.reduceLT,Nat.reduceLeDiff,Nat.reduceAdd,Nat.reduceMul,Nat.reduceSub,Nat.reduceBEq,Int.reduceToNat,cond_true,cond_false,eq_self,beq_self_eq_true,g0,g1,g2,g10,hls,zFx wf,zGy wf,zBw wf,zFy wf,zAy wf,zAx,tEvD32,zIx,zIy,zIz,zHv,zFv,zAv wf];first|(refine zCx (Q:=Q_) (fun hp_=>?_) (fun hp_=>?_) <;> first|(exfalso;omega)|(refine hQ_ _ _ ?_;clear hQ_ Q_))|(refine zBx (Q:=Q_) (fun hp_=>?_) (fun hp_=>?_) <;> first|(exfalso;omega)|(refine hQ_ _ _ ?_;clear hQ_ Q_))|(refine hQ_ _ _ ?_;clear hQ_ Q_)))
  | (refine zHx fun K_ hK_=>?_;simp (disch:=omega) only [zGz,zAz,zHw,↓reduceIte,reduceCtorEq,Nat.reduceEqDiff,Nat.reduceLT];refine hK_ _ ?_;clear hK_ K_)))
                  refine zVw (fun (i:Nat) f d h'=>i≤ts.length∧f 0=s∧f 1=lv∧f 2=q∧f 11=ii (cntH vT ms i:Nat)∧f 12=ii (cntH vF ms i:Nat)∧f 13=ii (i:Int)∧d=[] ∧ ∃ G,h'=X h G h.clock) (fun i=>ts.length - i) ?_ (ts.length+1) 0 (by omega) ?_
                  · clear g0 g1 g2 g10
                    rintro i f d h' ⟨hi,g0,g1,g2,g11,g12,g13,rfl,G,rfl⟩
                    by_cases hlt:i<ts.length
                    · obtain ⟨id,off,hix,hld⟩:=xt.at hlt
                      simp only [teC] at hld
                      have hT:=h2 _ (List.getElem_mem hlt)
                      have hR:=h5 _ (List.getElem_mem hlt)
                      have x1:=w1 i hlt
                      have x2:=w2 i hlt
                      obtain ⟨ie,oe,hxe,hle⟩:=hq.at1 wf (i:=i) (by omega) ik_22
                      have hle' : ∀ J w,load1 ie oe (X h J w)=some (ii (ms.getD i 0)):=fun J w=>by
                        rw [hle,List.getElem?_map];simp [List.getD,show i<ms.length by omega]
                      have st1:=xEx vT ms i
                      have st2:=xEx vF ms i
                      have b1:=cntH_le vT ms i
                      have b2:=cntH_le vF ms i
                      rw [x1] at st1
                      rw [x2] at st2
                      clear w1 w2 d1 d2 x1 x2
                      generalize ms.getD i 0=mi at *
                      have sc:=fun l w hw=>spanned ts[i] hT lv ls hk hR _ (xl.up l w hw)
                      generalize spanV ts[i] ls true=sT at *
                      generalize spanV ts[i] ls false=sF at *
                      generalize ts[i]=T at *
                      generalize hc1:cntH vT ms i=c1 at *
                      generalize hc2:cntH vF ms i=c2 at *
                      generalize hn1:cntH vT ms (i+1)=n1 at *
                      generalize hn2:cntH vF ms (i+1)=n2 at *
                      (repeat' (first
  | (with_reducible first|refine zJw ?_|refine zHz ?_|refine zEv ?_|refine zEw ?_|refine zFz ?_|refine zJv ?_|refine zHy ?_|refine zBv ?_|refine zDx ?_|refine zCz ?_|refine zCw ?_|refine zEy ?_|refine zCv ?_|refine zCy ?_|refine zBy ?_|refine zDv ?_|refine zEz ?_|refine zAw ?_|refine zBz ?_)
  | refine zDz ?_|refine zEx rfl ?_|refine zJy ?_|refine zJx ?_
  | ((first|refine zGv rfl rfl rfl rfl rfl fun K_ hK_=>?_|refine zGw rfl rfl rfl rfl rfl fun K_ hK_=>?_);simp only [zAz,zDy,zGx,↓reduceIte,reduceCtorEq,Nat.reduceEqDiff,Bool.not_true,Bool.not_false];refine hK_ _ ?_;clear hK_ K_)
  | refine zDw (by decide) ?_
  | ((try first|refine zKy rfl rfl rfl ?_|refine zJz rfl rfl ?_|refine zKx rfl rfl rfl ?_|refine zIv rfl rfl ?_);(refine zIw fun Q_ hQ_=>?_;simp (disch:=first|omega|(simp only [List.length_cons,List.length_nil,List.length_append];omega)) only [bb,bp,zLy,↓reduceIte,reduceCtorEq,Nat.reduceEqDiff,Nat.reduceLT,Nat.reduceLeDiff,Nat.reduceAdd,Nat.reduceMul,Nat.reduceSub,Nat.reduceBEq,Int.reduceToNat,cond_true,cond_false,eq_self,beq_self_eq_true,g0,g1,g2,g11,g12,g13,hls,hix,hld,zFx wf,zGy wf,zBw wf,zFy wf,zAy wf,zAx,tEvD32,zIx,zIy,zIz,zHv,zFv,zAv wf];first|(refine zCx (Q:=Q_) (fun hp_=>?_) (fun hp_=>?_) <;> first|(exfalso;omega)|(refine hQ_ _ _ ?_;clear hQ_ Q_))|(refine zBx (Q:=Q_) (fun hp_=>?_) (fun hp_=>?_) <;> first|(exfalso;omega)|(refine hQ_ _ _ ?_;clear hQ_ Q_))|(refine hQ_ _ _ ?_;clear hQ_ Q_)|(refine zRv (sc _ _ (by first|omega|(simp only [List.length_append,List.length_cons,List.length_nil];omega))) ?_;refine hQ_ _ _ ?_;clear hQ_ Q_)))
  | (refine zHx fun K_ hK_=>?_;simp (disch:=omega) only [zGz,zAz,zHw,↓reduceIte,reduceCtorEq,Nat.reduceEqDiff,Nat.reduceLT];refine hK_ _ ?_;clear hK_ K_)))
                      refine zLv [.full,.full,.full,.full,.no,.no,.no,.no,.no,.no,.full,.full] (by kernel_rfl) ?_
                      (repeat' (first
  | (with_reducible first|refine zJw ?_|refine zHz ?_|refine zEv ?_|refine zEw ?_|refine zFz ?_|refine zJv ?_|refine zHy ?_|refine zBv ?_|refine zDx ?_|refine zCz ?_|refine zCw ?_|refine zEy ?_|refine zCv ?_|refine zCy ?_|refine zBy ?_|refine zDv ?_|refine zEz ?_|refine zAw ?_|refine zBz ?_)
  | refine zDz ?_|refine zEx rfl ?_|refine zJy ?_|refine zJx ?_
  | ((first|refine zGv rfl rfl rfl rfl rfl fun K_ hK_=>?_|refine zGw rfl rfl rfl rfl rfl fun K_ hK_=>?_);simp only [zAz,zDy,zGx,↓reduceIte,reduceCtorEq,Nat.reduceEqDiff,Bool.not_true,Bool.not_false];refine hK_ _ ?_;clear hK_ K_)
  | refine zDw (by decide) ?_
  | ((try first|refine zKy rfl rfl rfl ?_|refine zJz rfl rfl ?_|refine zKx rfl rfl rfl ?_|refine zIv rfl rfl ?_);(refine zIw fun Q_ hQ_=>?_;simp (disch:=first|omega|(simp only [List.length_cons,List.length_nil,List.length_append];omega)) only [bb,bp,zLy,↓reduceIte,reduceCtorEq,Nat.reduceEqDiff,Nat.reduceLT,Nat.reduceLeDiff,Nat.reduceAdd,Nat.reduceMul,Nat.reduceSub,Nat.reduceBEq,Int.reduceToNat,cond_true,cond_false,eq_self,beq_self_eq_true,g0,g1,g2,g11,g12,g13,hxe,hle',zFx wf,zGy wf,zBw wf,zFy wf,zAy wf,zAx,tEvD32,zIx,zIy,zIz,zHv,zFv,zAv wf];first|(refine zCx (Q:=Q_) (fun hp_=>?_) (fun hp_=>?_) <;> first|(exfalso;omega)|(refine hQ_ _ _ ?_;clear hQ_ Q_))|(refine zBx (Q:=Q_) (fun hp_=>?_) (fun hp_=>?_) <;> first|(exfalso;omega)|(refine hQ_ _ _ ?_;clear hQ_ Q_))|(refine hQ_ _ _ ?_;clear hQ_ Q_)))
  | (refine zHx fun K_ hK_=>?_;simp (disch:=omega) only [zGz,zAz,zHw,↓reduceIte,reduceCtorEq,Nat.reduceEqDiff,Nat.reduceLT];refine hK_ _ ?_;clear hK_ K_)))
                      all_goals (refine zLv [.full,.full,.full,.full,.no,.no,.no,.no,.no,.no,.full,.full] (by kernel_rfl) ?_)
                      all_goals ((repeat' (first
  | (with_reducible first|refine zJw ?_|refine zHz ?_|refine zEv ?_|refine zEw ?_|refine zFz ?_|refine zJv ?_|refine zHy ?_|refine zBv ?_|refine zDx ?_|refine zCz ?_|refine zCw ?_|refine zEy ?_|refine zCv ?_|refine zCy ?_|refine zBy ?_|refine zDv ?_|refine zEz ?_|refine zAw ?_|refine zBz ?_)
  | refine zDz ?_|refine zEx rfl ?_|refine zJy ?_|refine zJx ?_
  | ((first|refine zGv rfl rfl rfl rfl rfl fun K_ hK_=>?_|refine zGw rfl rfl rfl rfl rfl fun K_ hK_=>?_);simp only [zAz,zDy,zGx,↓reduceIte,reduceCtorEq,Nat.reduceEqDiff,Bool.not_true,Bool.not_false];refine hK_ _ ?_;clear hK_ K_)
  | refine zDw (by decide) ?_
  | ((try first|refine zKy rfl rfl rfl ?_|refine zJz rfl rfl ?_|refine zKx rfl rfl rfl ?_|refine zIv rfl rfl ?_);(refine zIw fun Q_ hQ_=>?_;simp (disch:=first|omega|(simp only [List.length_cons,List.length_nil,List.length_append];omega)) only [bb,bp,zLy,↓reduceIte,reduceCtorEq,Nat.reduceEqDiff,Nat.reduceLT,Nat.reduceLeDiff,Nat.reduceAdd,Nat.reduceMul,Nat.reduceSub,Nat.reduceBEq,Int.reduceToNat,cond_true,cond_false,eq_self,beq_self_eq_true,g0,g1,g2,g11,g12,g13,hxe,hle',zFx wf,zGy wf,zBw wf,zFy wf,zAy wf,zAx,tEvD32,zIx,zIy,zIz,zHv,zFv,zAv wf];first|(refine zCx (Q:=Q_) (fun hp_=>?_) (fun hp_=>?_) <;> first|(exfalso;omega)|(refine hQ_ _ _ ?_;clear hQ_ Q_))|(refine zBx (Q:=Q_) (fun hp_=>?_) (fun hp_=>?_) <;> first|(exfalso;omega)|(refine hQ_ _ _ ?_;clear hQ_ Q_))|(refine hQ_ _ _ ?_;clear hQ_ Q_)))
  | (refine zHx fun K_ hK_=>?_;simp (disch:=omega) only [zGz,zAz,zHw,↓reduceIte,reduceCtorEq,Nat.reduceEqDiff,Nat.reduceLT];refine hK_ _ ?_;clear hK_ K_))))
                      all_goals (refine zLz (i+1) (by omega) ⟨hlt,by simp only [zAz,↓reduceIte,reduceCtorEq,Nat.reduceEqDiff];exact g0,by simp only [zAz,↓reduceIte,reduceCtorEq,Nat.reduceEqDiff];exact g1,by simp only [zAz,↓reduceIte,reduceCtorEq,Nat.reduceEqDiff];exact g2,?_,?_,by simp only [zAz,↓reduceIte,reduceCtorEq,Nat.reduceEqDiff];rfl,rfl,_,rfl⟩)
                      all_goals (simp only [zAz,↓reduceIte,reduceCtorEq,Nat.reduceEqDiff])
                      all_goals (first|rw [hn1]|rw [hn2])
                      all_goals first
                        | (rw [g11];congr 1;split at st1 <;> omega)
                        | (rw [g12];congr 1;split at st2 <;> omega)
                        | (congr 1;split at st1 <;> omega)
                        | (congr 1;split at st2 <;> omega)
                    · have hie:i=ts.length:=by omega
                      subst hie
                      (repeat' (first
  | (with_reducible first|refine zJw ?_|refine zHz ?_|refine zEv ?_|refine zEw ?_|refine zFz ?_|refine zJv ?_|refine zHy ?_|refine zBv ?_|refine zDx ?_|refine zCz ?_|refine zCw ?_|refine zEy ?_|refine zCv ?_|refine zCy ?_|refine zBy ?_|refine zDv ?_|refine zEz ?_|refine zAw ?_|refine zBz ?_)
  | refine zDz ?_|refine zEx rfl ?_|refine zJy ?_|refine zJx ?_
  | ((first|refine zGv rfl rfl rfl rfl rfl fun K_ hK_=>?_|refine zGw rfl rfl rfl rfl rfl fun K_ hK_=>?_);simp only [zAz,zDy,zGx,↓reduceIte,reduceCtorEq,Nat.reduceEqDiff,Bool.not_true,Bool.not_false];refine hK_ _ ?_;clear hK_ K_)
  | refine zDw (by decide) ?_
  | ((try first|refine zKy rfl rfl rfl ?_|refine zJz rfl rfl ?_|refine zKx rfl rfl rfl ?_|refine zIv rfl rfl ?_);(refine zIw fun Q_ hQ_=>?_;simp (disch:=first|omega|(simp only [List.length_cons,List.length_nil,List.length_append];omega)) only [bb,bp,zLy,↓reduceIte,reduceCtorEq,Nat.reduceEqDiff,Nat.reduceLT,Nat.reduceLeDiff,Nat.reduceAdd,Nat.reduceMul,Nat.reduceSub,Nat.reduceBEq,Int.reduceToNat,cond_true,cond_false,eq_self,beq_self_eq_true,g0,g1,g2,g11,g12,g13,hls,zFx wf,zGy wf,zBw wf,zFy wf,zAy wf,zAx,tEvD32,zIx,zIy,zIz,zHv,zFv,zAv wf];first|(refine zCx (Q:=Q_) (fun hp_=>?_) (fun hp_=>?_) <;> first|(exfalso;omega)|(refine hQ_ _ _ ?_;clear hQ_ Q_))|(refine zBx (Q:=Q_) (fun hp_=>?_) (fun hp_=>?_) <;> first|(exfalso;omega)|(refine hQ_ _ _ ?_;clear hQ_ Q_))|(refine hQ_ _ _ ?_;clear hQ_ Q_)))
  | (refine zHx fun K_ hK_=>?_;simp (disch:=omega) only [zGz,zAz,zHw,↓reduceIte,reduceCtorEq,Nat.reduceEqDiff,Nat.reduceLT];refine hK_ _ ?_;clear hK_ K_)))
                      (refine zKz _ _ rfl (ret3 (by decide) (by decide) (by decide)) ?_;simp only [zAz,↓reduceIte,reduceCtorEq,Nat.reduceEqDiff];refine zKw rfl (by omega) ?_)
                      exact ⟨rfl,rfl⟩
                  · exact ⟨Nat.zero_le _,by simp only [zAz,↓reduceIte,reduceCtorEq,Nat.reduceEqDiff];exact g0,by simp only [zAz,↓reduceIte,reduceCtorEq,Nat.reduceEqDiff];exact g1,by simp only [zAz,↓reduceIte,reduceCtorEq,Nat.reduceEqDiff];exact g2,by first|(simp only [zAz,↓reduceIte,reduceCtorEq,Nat.reduceEqDiff];done)|(simp only [zAz,↓reduceIte,reduceCtorEq,Nat.reduceEqDiff];rfl),by first|(simp only [zAz,↓reduceIte,reduceCtorEq,Nat.reduceEqDiff];done)|(simp only [zAz,↓reduceIte,reduceCtorEq,Nat.reduceEqDiff];rfl),by first|(simp only [zAz,↓reduceIte,reduceCtorEq,Nat.reduceEqDiff];done)|(simp only [zAz,↓reduceIte,reduceCtorEq,Nat.reduceEqDiff];rfl),rfl,[],rfl⟩
              · exact ⟨Nat.zero_le _,by simp only [zAz,↓reduceIte,reduceCtorEq,Nat.reduceEqDiff];exact g0,by simp only [zAz,↓reduceIte,reduceCtorEq,Nat.reduceEqDiff];exact g1,by simp only [zAz,↓reduceIte,reduceCtorEq,Nat.reduceEqDiff];exact g2,by first|(simp only [zAz,↓reduceIte,reduceCtorEq,Nat.reduceEqDiff];done)|(simp only [zAz,↓reduceIte,reduceCtorEq,Nat.reduceEqDiff];rfl),rfl,rfl⟩
            · have e:holdsErr' ts ls ms.length=19:=by unfold holdsErr';rw [if_neg h1,if_neg (not_not_intro h2),if_neg (not_not_intro h3),if_neg (not_not_intro h4),if_neg h5]
              have e2 : ∀ b,holdsV ts ls ms b=0:=fun b=>if_neg (by omega)
              rw [e,e2,e2]
              obtain ⟨k,hkn,hbad,hgood⟩:=firstNot (P:=fun j=>∀ hj:j<ts.length,rk ts[j] ls) (n:=ts.length) (fun hall=>h5 fun t ht=>by
                obtain ⟨j,hj,rfl⟩:=List.getElem_of_mem ht
                exact hall j hj hj)
              have hbad' : ¬ rk ts[k] ls:=fun q=>hbad fun _=>q
              refine zVw (fun (i:Nat) f d h'=>i≤k∧f 0=s∧f 1=lv∧f 2=q∧f 10=ii (i:Int)∧d=[]∧h'=X h [] h.clock) (fun i=>k - i) ?_ (k+1) 0 (by omega) ?_
              · clear g0 g1 g2 g9
                rintro i f d h' ⟨hi,g0,g1,g2,g10,rfl,rfl⟩
                by_cases hlt:i<k
                · have hlt':i<ts.length:=by omega
                  obtain ⟨id,off,hix,hld⟩:=xt.at hlt'
                  simp only [teC] at hld
                  have hT:=h2 _ (List.getElem_mem hlt')
                  have hR:=hgood i hlt hlt'
                  generalize ts[i]=T at *
                  (repeat' (first
  | (with_reducible first|refine zJw ?_|refine zHz ?_|refine zEv ?_|refine zEw ?_|refine zFz ?_|refine zJv ?_|refine zHy ?_|refine zBv ?_|refine zDx ?_|refine zCz ?_|refine zCw ?_|refine zEy ?_|refine zCv ?_|refine zCy ?_|refine zBy ?_|refine zDv ?_|refine zEz ?_|refine zAw ?_|refine zBz ?_)
  | refine zDz ?_|refine zEx rfl ?_|refine zJy ?_|refine zJx ?_
  | ((first|refine zGv rfl rfl rfl rfl rfl fun K_ hK_=>?_|refine zGw rfl rfl rfl rfl rfl fun K_ hK_=>?_);simp only [zAz,zDy,zGx,↓reduceIte,reduceCtorEq,Nat.reduceEqDiff,Bool.not_true,Bool.not_false];refine hK_ _ ?_;clear hK_ K_)
  | refine zDw (by decide) ?_
  | ((try first|refine zKy rfl rfl rfl ?_|refine zJz rfl rfl ?_|refine zKx rfl rfl rfl ?_|refine zIv rfl rfl ?_);(refine zIw fun Q_ hQ_=>?_;simp (disch:=first|omega|(simp only [List.length_cons,List.length_nil,List.length_append];omega)) only [bb,bp,zLy,↓reduceIte,reduceCtorEq,Nat.reduceEqDiff,Nat.reduceLT,Nat.reduceLeDiff,Nat.reduceAdd,Nat.reduceMul,Nat.reduceSub,Nat.reduceBEq,Int.reduceToNat,cond_true,cond_false,eq_self,beq_self_eq_true,g0,g1,g2,g10,hls,hix,hld,zFx wf,zGy wf,zBw wf,zFy wf,zAy wf,zAx,tEvD32,zIx,zIy,zIz,zHv,zFv,zAv wf];first|(refine zCx (Q:=Q_) (fun hp_=>?_) (fun hp_=>?_) <;> first|(exfalso;omega)|(refine hQ_ _ _ ?_;clear hQ_ Q_))|(refine zBx (Q:=Q_) (fun hp_=>?_) (fun hp_=>?_) <;> first|(exfalso;omega)|(refine hQ_ _ _ ?_;clear hQ_ Q_))|(refine hQ_ _ _ ?_;clear hQ_ Q_)|(refine zRv ((Reckoned T hT lv ls hk _ (xl.up _ _ (by first|omega|(simp only [List.length_append,List.length_cons,List.length_nil];omega)))).trans (by rw [decide_eq_true hR])) ?_;refine hQ_ _ _ ?_;clear hQ_ Q_)))
  | (refine zHx fun K_ hK_=>?_;simp (disch:=omega) only [zGz,zAz,zHw,↓reduceIte,reduceCtorEq,Nat.reduceEqDiff,Nat.reduceLT];refine hK_ _ ?_;clear hK_ K_)))
                  refine zLz (i+1) (by omega) ⟨hlt,by simp only [zAz,↓reduceIte,reduceCtorEq,Nat.reduceEqDiff];exact g0,by simp only [zAz,↓reduceIte,reduceCtorEq,Nat.reduceEqDiff];exact g1,by simp only [zAz,↓reduceIte,reduceCtorEq,Nat.reduceEqDiff];exact g2,by simp only [zAz,↓reduceIte,reduceCtorEq,Nat.reduceEqDiff];rfl,rfl,rfl⟩
                · have hie2:i=k:=by omega
                  subst hie2
                  obtain ⟨id,off,hix,hld⟩:=xt.at hkn
                  simp only [teC] at hld
                  have hT:=h2 _ (List.getElem_mem hkn)
                  generalize ts[i]=T at *
                  (repeat' (first
  | (with_reducible first|refine zJw ?_|refine zHz ?_|refine zEv ?_|refine zEw ?_|refine zFz ?_|refine zJv ?_|refine zHy ?_|refine zBv ?_|refine zDx ?_|refine zCz ?_|refine zCw ?_|refine zEy ?_|refine zCv ?_|refine zCy ?_|refine zBy ?_|refine zDv ?_|refine zEz ?_|refine zAw ?_|refine zBz ?_)
  | refine zDz ?_|refine zEx rfl ?_|refine zJy ?_|refine zJx ?_
  | ((first|refine zGv rfl rfl rfl rfl rfl fun K_ hK_=>?_|refine zGw rfl rfl rfl rfl rfl fun K_ hK_=>?_);simp only [zAz,zDy,zGx,↓reduceIte,reduceCtorEq,Nat.reduceEqDiff,Bool.not_true,Bool.not_false];refine hK_ _ ?_;clear hK_ K_)
  | refine zDw (by decide) ?_
  | ((try first|refine zKy rfl rfl rfl ?_|refine zJz rfl rfl ?_|refine zKx rfl rfl rfl ?_|refine zIv rfl rfl ?_);(refine zIw fun Q_ hQ_=>?_;simp (disch:=first|omega|(simp only [List.length_cons,List.length_nil,List.length_append];omega)) only [bb,bp,zLy,↓reduceIte,reduceCtorEq,Nat.reduceEqDiff,Nat.reduceLT,Nat.reduceLeDiff,Nat.reduceAdd,Nat.reduceMul,Nat.reduceSub,Nat.reduceBEq,Int.reduceToNat,cond_true,cond_false,eq_self,beq_self_eq_true,g0,g1,g2,g10,hls,hix,hld,zFx wf,zGy wf,zBw wf,zFy wf,zAy wf,zAx,tEvD32,zIx,zIy,zIz,zHv,zFv,zAv wf];first|(refine zCx (Q:=Q_) (fun hp_=>?_) (fun hp_=>?_) <;> first|(exfalso;omega)|(refine hQ_ _ _ ?_;clear hQ_ Q_))|(refine zBx (Q:=Q_) (fun hp_=>?_) (fun hp_=>?_) <;> first|(exfalso;omega)|(refine hQ_ _ _ ?_;clear hQ_ Q_))|(refine hQ_ _ _ ?_;clear hQ_ Q_)|(refine zRv ((Reckoned T hT lv ls hk _ (xl.up _ _ (by first|omega|(simp only [List.length_append,List.length_cons,List.length_nil];omega)))).trans (by rw [decide_eq_false hbad'])) ?_;refine hQ_ _ _ ?_;clear hQ_ Q_)))
  | (refine zHx fun K_ hK_=>?_;simp (disch:=omega) only [zGz,zAz,zHw,↓reduceIte,reduceCtorEq,Nat.reduceEqDiff,Nat.reduceLT];refine hK_ _ ?_;clear hK_ K_)))
                  (refine zKz _ _ rfl (ret3 (by decide) (by decide) (by decide)) ?_;simp only [zAz,↓reduceIte,reduceCtorEq,Nat.reduceEqDiff];refine zKw rfl (by omega) ?_)
                  exact ⟨rfl,rfl⟩
              · exact ⟨Nat.zero_le _,by simp only [zAz,↓reduceIte,reduceCtorEq,Nat.reduceEqDiff];exact g0,by simp only [zAz,↓reduceIte,reduceCtorEq,Nat.reduceEqDiff];exact g1,by simp only [zAz,↓reduceIte,reduceCtorEq,Nat.reduceEqDiff];exact g2,by first|(simp only [zAz,↓reduceIte,reduceCtorEq,Nat.reduceEqDiff];done)|(simp only [zAz,↓reduceIte,reduceCtorEq,Nat.reduceEqDiff];rfl),rfl,rfl⟩
          · have h4':(ms.length:Int)≠(ts.length:Int):=by omega
            have e:holdsErr' ts ls ms.length=15:=by unfold holdsErr';rw [if_neg h1,if_neg (not_not_intro h2),if_neg (not_not_intro h3),if_pos h4]
            have e2 : ∀ b,holdsV ts ls ms b=0:=fun b=>if_neg (by omega)
            rw [e,e2,e2]
            (repeat' (first
  | (with_reducible first|refine zJw ?_|refine zHz ?_|refine zEv ?_|refine zEw ?_|refine zFz ?_|refine zJv ?_|refine zHy ?_|refine zBv ?_|refine zDx ?_|refine zCz ?_|refine zCw ?_|refine zEy ?_|refine zCv ?_|refine zCy ?_|refine zBy ?_|refine zDv ?_|refine zEz ?_|refine zAw ?_|refine zBz ?_)
  | refine zDz ?_|refine zEx rfl ?_|refine zJy ?_|refine zJx ?_
  | ((first|refine zGv rfl rfl rfl rfl rfl fun K_ hK_=>?_|refine zGw rfl rfl rfl rfl rfl fun K_ hK_=>?_);simp only [zAz,zDy,zGx,↓reduceIte,reduceCtorEq,Nat.reduceEqDiff,Bool.not_true,Bool.not_false];refine hK_ _ ?_;clear hK_ K_)
  | refine zDw (by decide) ?_
  | ((try first|refine zKy rfl rfl rfl ?_|refine zJz rfl rfl ?_|refine zKx rfl rfl rfl ?_|refine zIv rfl rfl ?_);(refine zIw fun Q_ hQ_=>?_;simp (disch:=first|omega|(simp only [List.length_cons,List.length_nil,List.length_append];omega)) only [bb,bp,zLy,↓reduceIte,reduceCtorEq,Nat.reduceEqDiff,Nat.reduceLT,Nat.reduceLeDiff,Nat.reduceAdd,Nat.reduceMul,Nat.reduceSub,Nat.reduceBEq,Int.reduceToNat,cond_true,cond_false,eq_self,beq_self_eq_true,g0,g1,g2,g9,hls,hlq,zFx wf,zGy wf,zBw wf,zFy wf,zAy wf,zAx,tEvD32,zIx,zIy,zIz,zHv,zFv,zAv wf];first|(refine zCx (Q:=Q_) (fun hp_=>?_) (fun hp_=>?_) <;> first|(exfalso;omega)|(refine hQ_ _ _ ?_;clear hQ_ Q_))|(refine zBx (Q:=Q_) (fun hp_=>?_) (fun hp_=>?_) <;> first|(exfalso;omega)|(refine hQ_ _ _ ?_;clear hQ_ Q_))|(refine hQ_ _ _ ?_;clear hQ_ Q_)|(refine zRv ((refLines lv ls _ (xl.up _ _ (by first|omega|(simp only [List.length_append,List.length_cons,List.length_nil];omega)))).trans (by rw [h3])) ?_;refine hQ_ _ _ ?_;clear hQ_ Q_)))
  | (refine zHx fun K_ hK_=>?_;simp (disch:=omega) only [zGz,zAz,zHw,↓reduceIte,reduceCtorEq,Nat.reduceEqDiff,Nat.reduceLT];refine hK_ _ ?_;clear hK_ K_)))
            (refine zKz _ _ rfl (ret3 (by decide) (by decide) (by decide)) ?_;simp only [zAz,↓reduceIte,reduceCtorEq,Nat.reduceEqDiff];refine zKw rfl (by omega) ?_)
            exact ⟨rfl,rfl⟩
        · have e:holdsErr' ts ls ms.length=linesErr ls:=by unfold holdsErr';rw [if_neg h1,if_neg (not_not_intro h2),if_pos h3]
          have e2 : ∀ b,holdsV ts ls ms b=0:=fun b=>if_neg (by omega)
          rw [e,e2,e2]
          (repeat' (first
  | (with_reducible first|refine zJw ?_|refine zHz ?_|refine zEv ?_|refine zEw ?_|refine zFz ?_|refine zJv ?_|refine zHy ?_|refine zBv ?_|refine zDx ?_|refine zCz ?_|refine zCw ?_|refine zEy ?_|refine zCv ?_|refine zCy ?_|refine zBy ?_|refine zDv ?_|refine zEz ?_|refine zAw ?_|refine zBz ?_)
  | refine zDz ?_|refine zEx rfl ?_|refine zJy ?_|refine zJx ?_
  | ((first|refine zGv rfl rfl rfl rfl rfl fun K_ hK_=>?_|refine zGw rfl rfl rfl rfl rfl fun K_ hK_=>?_);simp only [zAz,zDy,zGx,↓reduceIte,reduceCtorEq,Nat.reduceEqDiff,Bool.not_true,Bool.not_false];refine hK_ _ ?_;clear hK_ K_)
  | refine zDw (by decide) ?_
  | ((try first|refine zKy rfl rfl rfl ?_|refine zJz rfl rfl ?_|refine zKx rfl rfl rfl ?_|refine zIv rfl rfl ?_);(refine zIw fun Q_ hQ_=>?_;simp (disch:=first|omega|(simp only [List.length_cons,List.length_nil,List.length_append];omega)) only [bb,bp,zLy,↓reduceIte,reduceCtorEq,Nat.reduceEqDiff,Nat.reduceLT,Nat.reduceLeDiff,Nat.reduceAdd,Nat.reduceMul,Nat.reduceSub,Nat.reduceBEq,Int.reduceToNat,cond_true,cond_false,eq_self,beq_self_eq_true,g0,g1,g2,g9,hls,hlq,zFx wf,zGy wf,zBw wf,zFy wf,zAy wf,zAx,tEvD32,zIx,zIy,zIz,zHv,zFv,zAv wf];first|(refine zCx (Q:=Q_) (fun hp_=>?_) (fun hp_=>?_) <;> first|(exfalso;omega)|(refine hQ_ _ _ ?_;clear hQ_ Q_))|(refine zBx (Q:=Q_) (fun hp_=>?_) (fun hp_=>?_) <;> first|(exfalso;omega)|(refine hQ_ _ _ ?_;clear hQ_ Q_))|(refine hQ_ _ _ ?_;clear hQ_ Q_)|(refine zRv (refLines lv ls _ (xl.up _ _ (by first|omega|(simp only [List.length_append,List.length_cons,List.length_nil];omega)))) ?_;refine hQ_ _ _ ?_;clear hQ_ Q_)))
  | (refine zHx fun K_ hK_=>?_;simp (disch:=omega) only [zGz,zAz,zHw,↓reduceIte,reduceCtorEq,Nat.reduceEqDiff,Nat.reduceLT];refine hK_ _ ?_;clear hK_ K_)))
          (refine zKz _ _ rfl (ret3 (by decide) (by decide) (by decide)) ?_;simp only [zAz,↓reduceIte,reduceCtorEq,Nat.reduceEqDiff];refine zKw rfl (by omega) ?_)
          exact ⟨rfl,rfl⟩
    · exact ⟨Nat.zero_le _,by simp only [zAz,↓reduceIte,reduceCtorEq,Nat.reduceEqDiff],by simp only [zAz,↓reduceIte,reduceCtorEq,Nat.reduceEqDiff],by simp only [zAz,↓reduceIte,reduceCtorEq,Nat.reduceEqDiff],by first|(simp only [zAz,↓reduceIte,reduceCtorEq,Nat.reduceEqDiff];done)|(simp only [zAz,↓reduceIte,reduceCtorEq,Nat.reduceEqDiff];rfl),rfl,rfl⟩
  · have e:holdsErr' ts ls ms.length=2:=by unfold holdsErr';rw [if_neg h1,if_pos h2]
    have e2 : ∀ b,holdsV ts ls ms b=0:=fun b=>if_neg (by omega)
    rw [e,e2,e2]
    obtain ⟨k,hkn,hbad,hgood⟩:=firstNot (P:=fun j=>∀ hj:j<ts.length,okT ts[j]) (n:=ts.length) (fun hall=>h2 fun t ht=>by
      obtain ⟨j,hj,rfl⟩:=List.getElem_of_mem ht
      exact hall j hj hj)
    have hbad' : ¬ okT ts[k]:=fun q=>hbad fun _=>q
    (repeat' (first
  | (with_reducible first|refine zJw ?_|refine zHz ?_|refine zEv ?_|refine zEw ?_|refine zFz ?_|refine zJv ?_|refine zHy ?_|refine zBv ?_|refine zDx ?_|refine zCz ?_|refine zCw ?_|refine zEy ?_|refine zCv ?_|refine zCy ?_|refine zBy ?_|refine zDv ?_|refine zEz ?_|refine zAw ?_|refine zBz ?_)
  | refine zDz ?_|refine zEx rfl ?_|refine zJy ?_|refine zJx ?_
  | ((first|refine zGv rfl rfl rfl rfl rfl fun K_ hK_=>?_|refine zGw rfl rfl rfl rfl rfl fun K_ hK_=>?_);simp only [zAz,zDy,zGx,↓reduceIte,reduceCtorEq,Nat.reduceEqDiff,Bool.not_true,Bool.not_false];refine hK_ _ ?_;clear hK_ K_)
  | refine zDw (by decide) ?_
  | ((try first|refine zKy rfl rfl rfl ?_|refine zJz rfl rfl ?_|refine zKx rfl rfl rfl ?_|refine zIv rfl rfl ?_);(refine zIw fun Q_ hQ_=>?_;simp (disch:=first|omega|(simp only [List.length_cons,List.length_nil,List.length_append];omega)) only [bb,bp,zLy,↓reduceIte,reduceCtorEq,Nat.reduceEqDiff,Nat.reduceLT,Nat.reduceLeDiff,Nat.reduceAdd,Nat.reduceMul,Nat.reduceSub,Nat.reduceBEq,Int.reduceToNat,cond_true,cond_false,eq_self,beq_self_eq_true,hls,zFx wf,zGy wf,zBw wf,zFy wf,zAy wf,zAx,tEvD32,zIx,zIy,zIz,zHv,zFv,zAv wf];first|(refine zCx (Q:=Q_) (fun hp_=>?_) (fun hp_=>?_) <;> first|(exfalso;omega)|(refine hQ_ _ _ ?_;clear hQ_ Q_))|(refine zBx (Q:=Q_) (fun hp_=>?_) (fun hp_=>?_) <;> first|(exfalso;omega)|(refine hQ_ _ _ ?_;clear hQ_ Q_))|(refine hQ_ _ _ ?_;clear hQ_ Q_)))
  | (refine zHx fun K_ hK_=>?_;simp (disch:=omega) only [zGz,zAz,zHw,↓reduceIte,reduceCtorEq,Nat.reduceEqDiff,Nat.reduceLT];refine hK_ _ ?_;clear hK_ K_)))
    refine zVw (fun (i:Nat) f d h'=>i≤k∧f 0=s∧f 1=lv∧f 2=q∧f 9=ii (i:Int)∧d=[]∧h'=X h [] h.clock) (fun i=>k - i) ?_ (k+1) 0 (by omega) ?_
    · rintro i f d h' ⟨hi,g0,g1,g2,g9,rfl,rfl⟩
      by_cases hlt:i<k
      · obtain ⟨id,off,hix,hld⟩:=xt.at (i:=i) (by omega)
        simp only [teC] at hld
        have e0:=zWx (hgood i hlt (by omega))
        generalize ts[i]=T at *
        (repeat' (first
  | (with_reducible first|refine zJw ?_|refine zHz ?_|refine zEv ?_|refine zEw ?_|refine zFz ?_|refine zJv ?_|refine zHy ?_|refine zBv ?_|refine zDx ?_|refine zCz ?_|refine zCw ?_|refine zEy ?_|refine zCv ?_|refine zCy ?_|refine zBy ?_|refine zDv ?_|refine zEz ?_|refine zAw ?_|refine zBz ?_)
  | refine zDz ?_|refine zEx rfl ?_|refine zJy ?_|refine zJx ?_
  | ((first|refine zGv rfl rfl rfl rfl rfl fun K_ hK_=>?_|refine zGw rfl rfl rfl rfl rfl fun K_ hK_=>?_);simp only [zAz,zDy,zGx,↓reduceIte,reduceCtorEq,Nat.reduceEqDiff,Bool.not_true,Bool.not_false];refine hK_ _ ?_;clear hK_ K_)
  | refine zDw (by decide) ?_
  | ((try first|refine zKy rfl rfl rfl ?_|refine zJz rfl rfl ?_|refine zKx rfl rfl rfl ?_|refine zIv rfl rfl ?_);(refine zIw fun Q_ hQ_=>?_;simp (disch:=first|omega|(simp only [List.length_cons,List.length_nil,List.length_append];omega)) only [bb,bp,zLy,↓reduceIte,reduceCtorEq,Nat.reduceEqDiff,Nat.reduceLT,Nat.reduceLeDiff,Nat.reduceAdd,Nat.reduceMul,Nat.reduceSub,Nat.reduceBEq,Int.reduceToNat,cond_true,cond_false,eq_self,beq_self_eq_true,g0,g1,g2,g9,hls,hix,hld,zFx wf,zGy wf,zBw wf,zFy wf,zAy wf,zAx,tEvD32,zIx,zIy,zIz,zHv,zFv,zAv wf];first|(refine zCx (Q:=Q_) (fun hp_=>?_) (fun hp_=>?_) <;> first|(exfalso;omega)|(refine hQ_ _ _ ?_;clear hQ_ Q_))|(refine zBx (Q:=Q_) (fun hp_=>?_) (fun hp_=>?_) <;> first|(exfalso;omega)|(refine hQ_ _ _ ?_;clear hQ_ Q_))|(refine hQ_ _ _ ?_;clear hQ_ Q_)|(refine zRv ((refCheckTest T _ (wf.X (by first|omega|(simp only [List.length_append,List.length_cons,List.length_nil];omega)))).trans (by rw [e0])) ?_;refine hQ_ _ _ ?_;clear hQ_ Q_)))
  | (refine zHx fun K_ hK_=>?_;simp (disch:=omega) only [zGz,zAz,zHw,↓reduceIte,reduceCtorEq,Nat.reduceEqDiff,Nat.reduceLT];refine hK_ _ ?_;clear hK_ K_)))
        refine zLz (i+1) (by omega) ⟨hlt,by simp only [zAz,↓reduceIte,reduceCtorEq,Nat.reduceEqDiff];exact g0,by simp only [zAz,↓reduceIte,reduceCtorEq,Nat.reduceEqDiff];exact g1,by simp only [zAz,↓reduceIte,reduceCtorEq,Nat.reduceEqDiff];exact g2,by simp only [zAz,↓reduceIte,reduceCtorEq,Nat.reduceEqDiff];rfl,rfl,rfl⟩
      · have hie:i=k:=by omega
        subst hie
        obtain ⟨id,off,hix,hld⟩:=xt.at hkn
        simp only [teC] at hld
        have e0:=yYx hbad'
        generalize ts[i]=T at *
        (repeat' (first
  | (with_reducible first|refine zJw ?_|refine zHz ?_|refine zEv ?_|refine zEw ?_|refine zFz ?_|refine zJv ?_|refine zHy ?_|refine zBv ?_|refine zDx ?_|refine zCz ?_|refine zCw ?_|refine zEy ?_|refine zCv ?_|refine zCy ?_|refine zBy ?_|refine zDv ?_|refine zEz ?_|refine zAw ?_|refine zBz ?_)
  | refine zDz ?_|refine zEx rfl ?_|refine zJy ?_|refine zJx ?_
  | ((first|refine zGv rfl rfl rfl rfl rfl fun K_ hK_=>?_|refine zGw rfl rfl rfl rfl rfl fun K_ hK_=>?_);simp only [zAz,zDy,zGx,↓reduceIte,reduceCtorEq,Nat.reduceEqDiff,Bool.not_true,Bool.not_false];refine hK_ _ ?_;clear hK_ K_)
  | refine zDw (by decide) ?_
  | ((try first|refine zKy rfl rfl rfl ?_|refine zJz rfl rfl ?_|refine zKx rfl rfl rfl ?_|refine zIv rfl rfl ?_);(refine zIw fun Q_ hQ_=>?_;simp (disch:=first|omega|(simp only [List.length_cons,List.length_nil,List.length_append];omega)) only [bb,bp,zLy,↓reduceIte,reduceCtorEq,Nat.reduceEqDiff,Nat.reduceLT,Nat.reduceLeDiff,Nat.reduceAdd,Nat.reduceMul,Nat.reduceSub,Nat.reduceBEq,Int.reduceToNat,cond_true,cond_false,eq_self,beq_self_eq_true,g0,g1,g2,g9,hls,hix,hld,zFx wf,zGy wf,zBw wf,zFy wf,zAy wf,zAx,tEvD32,zIx,zIy,zIz,zHv,zFv,zAv wf];first|(refine zCx (Q:=Q_) (fun hp_=>?_) (fun hp_=>?_) <;> first|(exfalso;omega)|(refine hQ_ _ _ ?_;clear hQ_ Q_))|(refine zBx (Q:=Q_) (fun hp_=>?_) (fun hp_=>?_) <;> first|(exfalso;omega)|(refine hQ_ _ _ ?_;clear hQ_ Q_))|(refine hQ_ _ _ ?_;clear hQ_ Q_)|(refine zRv ((refCheckTest T _ (wf.X (by first|omega|(simp only [List.length_append,List.length_cons,List.length_nil];omega)))).trans (by rw [e0])) ?_;refine hQ_ _ _ ?_;clear hQ_ Q_)))
  | (refine zHx fun K_ hK_=>?_;simp (disch:=omega) only [zGz,zAz,zHw,↓reduceIte,reduceCtorEq,Nat.reduceEqDiff,Nat.reduceLT];refine hK_ _ ?_;clear hK_ K_)))
        (refine zKz _ _ rfl (ret3 (by decide) (by decide) (by decide)) ?_;simp only [zAz,↓reduceIte,reduceCtorEq,Nat.reduceEqDiff];refine zKw rfl (by omega) ?_)
        exact ⟨rfl,rfl⟩
    · exact ⟨Nat.zero_le _,by simp only [zAz,↓reduceIte,reduceCtorEq,Nat.reduceEqDiff],by simp only [zAz,↓reduceIte,reduceCtorEq,Nat.reduceEqDiff],by simp only [zAz,↓reduceIte,reduceCtorEq,Nat.reduceEqDiff],by first|(simp only [zAz,↓reduceIte,reduceCtorEq,Nat.reduceEqDiff];done)|(simp only [zAz,↓reduceIte,reduceCtorEq,Nat.reduceEqDiff];rfl),rfl,rfl⟩
end Go.Proofs.Ythaleckfgcgegaa
end

section
namespace Go.Proofs.Ythaleckfgcgegaa
open Go.Ev
set_option maxRecDepth 100000
set_option linter.unusedSimpArgs false
set_option linter.unusedVariables false
set_option maxHeartbeats 2000000
def doneE (o:AO):Prop:=∃ g' n' tm' ps' sg' bd' dd',o = .loop .done (.exit 0) g' n' tm' ps' sg' bd' dd'
end Go.Proofs.Ythaleckfgcgegaa
end

section
namespace Go.Proofs.Ythaleckfgcgegaa
open Go.Ev
set_option maxRecDepth 100000
set_option linter.unusedSimpArgs false
set_option linter.unusedVariables false
set_option maxHeartbeats 2000000
end Go.Proofs.Ythaleckfgcgegaa
end

section
namespace Go.Proofs.Ythaleckfgcgegaa
open Go.Ev
set_option maxRecDepth 100000
set_option linter.unusedSimpArgs false
set_option linter.unusedVariables false
set_option maxHeartbeats 2000000
theorem Fine.e {T:Te} {ls:List Ln} (f:Fine T ls):reckErr T ls=0:=reck4 f.k (yWv.2 f.l) f.r
theorem LineR.alone {h:H} {a b:AV} {re cf:List Int} (x:LineR h a b re cf) {L:List AO} {w k e:Nat} (hw:w≤h.clock+L.length) (hk:L[k]? = some (.cells (zFw [a,b]) e)):LinesR (X h L w) (.sl (nx h k) 0 1 (some 1) 2) [⟨a,b,re,cf⟩]:=
  ⟨x.wf.X hw,Sl.new x.wf rfl hk,fun l hl=>by rw [List.mem_singleton.1 hl];exact x.up L w hw⟩
end Go.Proofs.Ythaleckfgcgegaa
end

section
namespace Go.Proofs.Ythaleckfgcgegaa
open Go.Ev
set_option maxRecDepth 100000
set_option linter.unusedSimpArgs false
set_option linter.unusedVariables false
set_option maxHeartbeats 2000000
end Go.Proofs.Ythaleckfgcgegaa
end

section
namespace Go.Proofs.Ythaleckfgcgegaa
open Go.Ev
set_option maxRecDepth 100000
set_option linter.unusedSimpArgs false
set_option linter.unusedVariables false
set_option maxHeartbeats 2000000
theorem tEvD30 :type_of% (And.intro (And.intro (And.intro (And.intro (And.intro (And.intro (And.intro (@yWz) (@yVv)) (And.intro (@yVw) (And.intro (@yVx) (@yVy)))) (And.intro (And.intro (@yVz) (And.intro (@yUv) (@yUw))) (And.intro (@zVy) (And.intro (@ia_2) (@sz_2))))) (And.intro (And.intro (And.intro (@ia_3) (@sz_3)) (And.intro (@ia_4) (And.intro (@sz_4) (@yUx)))) (And.intro (And.intro (@yDw) (And.intro (@yUy) (@yDx))) (And.intro (@yUz) (And.intro (@yDy) (@yTv)))))) (And.intro (And.intro (And.intro (And.intro (@zWw) (@yTw)) (And.intro (@yDz) (And.intro (@yTx) (@yCv)))) (And.intro (And.intro (@yTy) (And.intro (@yCw) (@yTz))) (And.intro (@yCx) (And.intro (@ySv) (@yCy))))) (And.intro (And.intro (And.intro (@ySw) (And.intro (@yCz) (@ySx))) (And.intro (@zXz) (And.intro (@ySy) (@yBv)))) (And.intro (And.intro (@ySz) (And.intro (@yBw) (@yRv))) (And.intro (@yBx) (And.intro (@yRw) (@yBy))))))) (And.intro (And.intro (And.intro (And.intro (And.intro (@yRx) (@yBz)) (And.intro (@yRy) (And.intro (@yAv) (@yRz)))) (And.intro (And.intro (@yAw) (And.intro (@yQv) (@yAx))) (And.intro (@yQw) (And.intro (@yAy) (@yQx))))) (And.intro (And.intro (And.intro (@yAz) (@zVz)) (And.intro (@zTw) (And.intro (@zUv) (@zTx)))) (And.intro (And.intro (@zUw) (And.intro (@zTy) (@zUx))) (And.intro (@zTz) (And.intro (@zUy) (@zSv)))))) (And.intro (And.intro (And.intro (And.intro (@zUz) (@zSw)) (And.intro (@zTv) (And.intro (@zSx) (@ze_2)))) (And.intro (And.intro (@ze_3) (And.intro (@ze_4) (@zZv))) (And.intro (@zZw) (And.intro (@zZx) (@zZy))))) (And.intro (And.intro (And.intro (@zZz) (And.intro (@zYv) (@xDx))) (And.intro (@zYw) (And.intro (@zYx) (@zYy)))) (And.intro (And.intro (@zSy) (And.intro (@zRx) (@zRy))) (And.intro (@zRz) (And.intro (@zQv) (@zQw)))))))) (And.intro (And.intro (And.intro (And.intro (And.intro (And.intro (@zQx) (@zQy)) (And.intro (@zQz) (And.intro (@zPv) (@zPw)))) (And.intro (And.intro (@zPx) (And.intro (@zPy) (@zPz))) (And.intro (@zOv) (And.intro (@zOw) (@zOx))))) (And.intro (And.intro (And.intro (@zOy) (@zOz)) (And.intro (@zNv) (And.intro (@zNw) (@zNx)))) (And.intro (And.intro (@zNy) (And.intro (@zNz) (@zMv))) (And.intro (@zMw) (And.intro (@zMx) (@zMy)))))) (And.intro (And.intro (And.intro (And.intro (@zMz) (@yQy)) (And.intro (@yQz) (And.intro (@yPv) (@yPw)))) (And.intro (And.intro (@yPx) (And.intro (@yPy) (@yPz))) (And.intro (@yOv) (And.intro (@yOw) (@yOx))))) (And.intro (And.intro (And.intro (@yOy) (And.intro (@yOz) (@yNv))) (And.intro (@yNw) (And.intro (@yNx) (@yNy)))) (And.intro (And.intro (@yNz) (And.intro (@yMv) (@yMw))) (And.intro (@yMx) (And.intro (@yMy) (@yMz))))))) (And.intro (And.intro (And.intro (And.intro (And.intro (@yLv) (@yLw)) (And.intro (@yLx) (And.intro (@yLy) (@yLz)))) (And.intro (And.intro (@yKv) (And.intro (@yKw) (@yKx))) (And.intro (@yKy) (And.intro (@yKz) (@yJv))))) (And.intro (And.intro (And.intro (@yJw) (@yJx)) (And.intro (@yJy) (And.intro (@yJz) (@yIv)))) (And.intro (And.intro (@yIw) (And.intro (@yIx) (@yIy))) (And.intro (@yIz) (And.intro (@yHv) (@yHw)))))) (And.intro (And.intro (And.intro (And.intro (@yHx) (@yHy)) (And.intro (@yHz) (And.intro (@yGv) (@yGw)))) (And.intro (And.intro (@yGx) (And.intro (@zYz) (@zXv))) (And.intro (@yGy) (And.intro (@yGz) (@yFv))))) (And.intro (And.intro (And.intro (@yFw) (And.intro (@yFx) (@yFy))) (And.intro (@yFz) (And.intro (@yEv) (@yEw)))) (And.intro (And.intro (@yEx) (And.intro (@yEy) (@zXw))) (And.intro (@yEz) (And.intro (@yDv) (@zXx))))))))):=And.intro (And.intro (And.intro (And.intro (And.intro (And.intro (And.intro (@yWz) (@yVv)) (And.intro (@yVw) (And.intro (@yVx) (@yVy)))) (And.intro (And.intro (@yVz) (And.intro (@yUv) (@yUw))) (And.intro (@zVy) (And.intro (@ia_2) (@sz_2))))) (And.intro (And.intro (And.intro (@ia_3) (@sz_3)) (And.intro (@ia_4) (And.intro (@sz_4) (@yUx)))) (And.intro (And.intro (@yDw) (And.intro (@yUy) (@yDx))) (And.intro (@yUz) (And.intro (@yDy) (@yTv)))))) (And.intro (And.intro (And.intro (And.intro (@zWw) (@yTw)) (And.intro (@yDz) (And.intro (@yTx) (@yCv)))) (And.intro (And.intro (@yTy) (And.intro (@yCw) (@yTz))) (And.intro (@yCx) (And.intro (@ySv) (@yCy))))) (And.intro (And.intro (And.intro (@ySw) (And.intro (@yCz) (@ySx))) (And.intro (@zXz) (And.intro (@ySy) (@yBv)))) (And.intro (And.intro (@ySz) (And.intro (@yBw) (@yRv))) (And.intro (@yBx) (And.intro (@yRw) (@yBy))))))) (And.intro (And.intro (And.intro (And.intro (And.intro (@yRx) (@yBz)) (And.intro (@yRy) (And.intro (@yAv) (@yRz)))) (And.intro (And.intro (@yAw) (And.intro (@yQv) (@yAx))) (And.intro (@yQw) (And.intro (@yAy) (@yQx))))) (And.intro (And.intro (And.intro (@yAz) (@zVz)) (And.intro (@zTw) (And.intro (@zUv) (@zTx)))) (And.intro (And.intro (@zUw) (And.intro (@zTy) (@zUx))) (And.intro (@zTz) (And.intro (@zUy) (@zSv)))))) (And.intro (And.intro (And.intro (And.intro (@zUz) (@zSw)) (And.intro (@zTv) (And.intro (@zSx) (@ze_2)))) (And.intro (And.intro (@ze_3) (And.intro (@ze_4) (@zZv))) (And.intro (@zZw) (And.intro (@zZx) (@zZy))))) (And.intro (And.intro (And.intro (@zZz) (And.intro (@zYv) (@xDx))) (And.intro (@zYw) (And.intro (@zYx) (@zYy)))) (And.intro (And.intro (@zSy) (And.intro (@zRx) (@zRy))) (And.intro (@zRz) (And.intro (@zQv) (@zQw)))))))) (And.intro (And.intro (And.intro (And.intro (And.intro (And.intro (@zQx) (@zQy)) (And.intro (@zQz) (And.intro (@zPv) (@zPw)))) (And.intro (And.intro (@zPx) (And.intro (@zPy) (@zPz))) (And.intro (@zOv) (And.intro (@zOw) (@zOx))))) (And.intro (And.intro (And.intro (@zOy) (@zOz)) (And.intro (@zNv) (And.intro (@zNw) (@zNx)))) (And.intro (And.intro (@zNy) (And.intro (@zNz) (@zMv))) (And.intro (@zMw) (And.intro (@zMx) (@zMy)))))) (And.intro (And.intro (And.intro (And.intro (@zMz) (@yQy)) (And.intro (@yQz) (And.intro (@yPv) (@yPw)))) (And.intro (And.intro (@yPx) (And.intro (@yPy) (@yPz))) (And.intro (@yOv) (And.intro (@yOw) (@yOx))))) (And.intro (And.intro (And.intro (@yOy) (And.intro (@yOz) (@yNv))) (And.intro (@yNw) (And.intro (@yNx) (@yNy)))) (And.intro (And.intro (@yNz) (And.intro (@yMv) (@yMw))) (And.intro (@yMx) (And.intro (@yMy) (@yMz))))))) (And.intro (And.intro (And.intro (And.intro (And.intro (@yLv) (@yLw)) (And.intro (@yLx) (And.intro (@yLy) (@yLz)))) (And.intro (And.intro (@yKv) (And.intro (@yKw) (@yKx))) (And.intro (@yKy) (And.intro (@yKz) (@yJv))))) (And.intro (And.intro (And.intro (@yJw) (@yJx)) (And.intro (@yJy) (And.intro (@yJz) (@yIv)))) (And.intro (And.intro (@yIw) (And.intro (@yIx) (@yIy))) (And.intro (@yIz) (And.intro (@yHv) (@yHw)))))) (And.intro (And.intro (And.intro (And.intro (@yHx) (@yHy)) (And.intro (@yHz) (And.intro (@yGv) (@yGw)))) (And.intro (And.intro (@yGx) (And.intro (@zYz) (@zXv))) (And.intro (@yGy) (And.intro (@yGz) (@yFv))))) (And.intro (And.intro (And.intro (@yFw) (And.intro (@yFx) (@yFy))) (And.intro (@yFz) (And.intro (@yEv) (@yEw)))) (And.intro (And.intro (@yEx) (And.intro (@yEy) (@zXw))) (And.intro (@yEz) (And.intro (@yDv) (@zXx))))))))
theorem greaterT (s:AV) (ls:List Ln) (hg:Greater ls) (h:H) (x:LinesR h s ls):(om Try.prog KK).call (.fn 25 [s]) h = .ok (.bool true) h:=by
  obtain ⟨t,ht,hc⟩:=greater s ls h x
  rw [hc,ht.2 hg]
theorem greaterF (s:AV) (ls:List Ln) (hg : ¬ Greater ls) (h:H) (x:LinesR h s ls):(om Try.prog KK).call (.fn 25 [s]) h = .ok (.bool false) h:=by
  obtain ⟨t,ht,hc⟩:=greater s ls h x
  rw [hc]
  cases t
  · rfl
  · exact absurd (ht.1 rfl) hg
def Slow (T:Te):Prop:=okT T∧40<T.o1 - T.o0
instance (T:Te):Decidable (Slow T):=by unfold Slow;infer_instance
theorem slow (T:Te) (h:H) (wf:Wf h):(om Try.prog KK).call (.fn 26 [.agg [ii T.sp,ii T.lo,ii T.we,ii T.al,ii T.f0,ii T.f1,ii T.t0,ii T.t1,ii T.s0,ii T.s1,ii T.o0,ii T.o1,ii T.b0,ii T.b1,ii T.r0,ii T.r1]]) h = .ok (.bool (decide (Slow T))) h:=by
  refine zWy (zLx (fn:=Try.f26) Try.func26 rfl rfl rfl rfl rfl ?_)
  simp only [zLy]
  by_cases k:okT T
  · have e0:=zWx k
    have ko:=k.o
    (repeat' (first
  | (with_reducible first|refine zJw ?_|refine zHz ?_|refine zEv ?_|refine zEw ?_|refine zFz ?_|refine zJv ?_|refine zHy ?_|refine zBv ?_|refine zDx ?_|refine zCz ?_|refine zCw ?_|refine zEy ?_|refine zCv ?_|refine zCy ?_|refine zBy ?_|refine zDv ?_|refine zEz ?_|refine zAw ?_|refine zBz ?_)
  | refine zDz ?_|refine zEx rfl ?_|refine zJy ?_|refine zJx ?_
  | ((first|refine zGv rfl rfl rfl rfl rfl fun K_ hK_=>?_|refine zGw rfl rfl rfl rfl rfl fun K_ hK_=>?_);simp only [zAz,zDy,zGx,↓reduceIte,reduceCtorEq,Nat.reduceEqDiff,Bool.not_true,Bool.not_false];refine hK_ _ ?_;clear hK_ K_)
  | refine zDw (by decide) ?_
  | ((try first|refine zKy rfl rfl rfl ?_|refine zJz rfl rfl ?_|refine zKx rfl rfl rfl ?_|refine zIv rfl rfl ?_);(refine zIw fun Q_ hQ_=>?_;simp (disch:=first|omega|(simp only [List.length_cons,List.length_nil,List.length_append];omega)) only [bb,bp,zLy,↓reduceIte,reduceCtorEq,Nat.reduceEqDiff,Nat.reduceLT,Nat.reduceLeDiff,Nat.reduceAdd,Nat.reduceMul,Nat.reduceSub,Nat.reduceBEq,Int.reduceToNat,cond_true,cond_false,eq_self,beq_self_eq_true,zFx wf,zGy wf,zBw wf,zFy wf,zAy wf,zAx,tEvD30,zIx,zIy,zIz,zHv,zFv,zAv wf];first|(refine zCx (Q:=Q_) (fun hp_=>?_) (fun hp_=>?_) <;> first|(exfalso;omega)|(refine hQ_ _ _ ?_;clear hQ_ Q_))|(refine zBx (Q:=Q_) (fun hp_=>?_) (fun hp_=>?_) <;> first|(exfalso;omega)|(refine hQ_ _ _ ?_;clear hQ_ Q_))|(refine hQ_ _ _ ?_;clear hQ_ Q_)|(refine zRv ((refCheckTest T _ (wf.X (Nat.le_add_right _ _))).trans (by rw [e0])) ?_;refine hQ_ _ _ ?_;clear hQ_ Q_)))
  | (refine zHx fun K_ hK_=>?_;simp (disch:=omega) only [zGz,zAz,zHw,↓reduceIte,reduceCtorEq,Nat.reduceEqDiff,Nat.reduceLT];refine hK_ _ ?_;clear hK_ K_)))
    all_goals (refine zKz _ _ rfl (ret1 (by decide)) ?_;simp only [zAz,↓reduceIte,reduceCtorEq,Nat.reduceEqDiff];refine zKw rfl (by omega) ?_)
    · exact ⟨by rw [decide_eq_true (show Slow T from ⟨k,by assumption⟩)],rfl⟩
    · exact ⟨by rw [decide_eq_false (show ¬ Slow T from fun q=>by have:=q.2;omega)],rfl⟩
  · have e0:=yYx k
    (repeat' (first
  | (with_reducible first|refine zJw ?_|refine zHz ?_|refine zEv ?_|refine zEw ?_|refine zFz ?_|refine zJv ?_|refine zHy ?_|refine zBv ?_|refine zDx ?_|refine zCz ?_|refine zCw ?_|refine zEy ?_|refine zCv ?_|refine zCy ?_|refine zBy ?_|refine zDv ?_|refine zEz ?_|refine zAw ?_|refine zBz ?_)
  | refine zDz ?_|refine zEx rfl ?_|refine zJy ?_|refine zJx ?_
  | ((first|refine zGv rfl rfl rfl rfl rfl fun K_ hK_=>?_|refine zGw rfl rfl rfl rfl rfl fun K_ hK_=>?_);simp only [zAz,zDy,zGx,↓reduceIte,reduceCtorEq,Nat.reduceEqDiff,Bool.not_true,Bool.not_false];refine hK_ _ ?_;clear hK_ K_)
  | refine zDw (by decide) ?_
  | ((try first|refine zKy rfl rfl rfl ?_|refine zJz rfl rfl ?_|refine zKx rfl rfl rfl ?_|refine zIv rfl rfl ?_);(refine zIw fun Q_ hQ_=>?_;simp (disch:=first|omega|(simp only [List.length_cons,List.length_nil,List.length_append];omega)) only [bb,bp,zLy,↓reduceIte,reduceCtorEq,Nat.reduceEqDiff,Nat.reduceLT,Nat.reduceLeDiff,Nat.reduceAdd,Nat.reduceMul,Nat.reduceSub,Nat.reduceBEq,Int.reduceToNat,cond_true,cond_false,eq_self,beq_self_eq_true,zFx wf,zGy wf,zBw wf,zFy wf,zAy wf,zAx,tEvD30,zIx,zIy,zIz,zHv,zFv,zAv wf];first|(refine zCx (Q:=Q_) (fun hp_=>?_) (fun hp_=>?_) <;> first|(exfalso;omega)|(refine hQ_ _ _ ?_;clear hQ_ Q_))|(refine zBx (Q:=Q_) (fun hp_=>?_) (fun hp_=>?_) <;> first|(exfalso;omega)|(refine hQ_ _ _ ?_;clear hQ_ Q_))|(refine hQ_ _ _ ?_;clear hQ_ Q_)|(refine zRv ((refCheckTest T _ (wf.X (Nat.le_add_right _ _))).trans (by rw [e0])) ?_;refine hQ_ _ _ ?_;clear hQ_ Q_)))
  | (refine zHx fun K_ hK_=>?_;simp (disch:=omega) only [zGz,zAz,zHw,↓reduceIte,reduceCtorEq,Nat.reduceEqDiff,Nat.reduceLT];refine hK_ _ ?_;clear hK_ K_)))
    (refine zKz _ _ rfl (ret1 (by decide)) ?_;simp only [zAz,↓reduceIte,reduceCtorEq,Nat.reduceEqDiff];refine zKw rfl (by omega) ?_)
    exact ⟨by rw [decide_eq_false (show ¬ Slow T from fun q=>k q.1)],rfl⟩
end Go.Proofs.Ythaleckfgcgegaa
end

section
namespace Go.Proofs.Ythaleckfgcgegaa
open Go.Ev
set_option maxRecDepth 100000
set_option linter.unusedSimpArgs false
set_option linter.unusedVariables false
set_option maxHeartbeats 2000000
theorem tEvD33 :type_of% (And.intro (And.intro (And.intro (And.intro (And.intro (And.intro (And.intro (@yWz) (@yVv)) (And.intro (@yVw) (And.intro (@yVx) (@yVy)))) (And.intro (And.intro (@yVz) (And.intro (@yUv) (@yUw))) (And.intro (@zVy) (And.intro (@ia_2) (@sz_2))))) (And.intro (And.intro (And.intro (@ia_3) (@sz_3)) (And.intro (@ia_4) (And.intro (@sz_4) (@yUx)))) (And.intro (And.intro (@yDw) (And.intro (@yUy) (@yDx))) (And.intro (@yUz) (And.intro (@yDy) (@yTv)))))) (And.intro (And.intro (And.intro (And.intro (@zWw) (@yTw)) (And.intro (@yDz) (And.intro (@yTx) (@yCv)))) (And.intro (And.intro (@yTy) (And.intro (@yCw) (@yTz))) (And.intro (@yCx) (And.intro (@ySv) (@yCy))))) (And.intro (And.intro (And.intro (@ySw) (And.intro (@yCz) (@ySx))) (And.intro (@zXz) (And.intro (@ySy) (@yBv)))) (And.intro (And.intro (@ySz) (And.intro (@yBw) (@yRv))) (And.intro (@yBx) (And.intro (@yRw) (@yBy))))))) (And.intro (And.intro (And.intro (And.intro (And.intro (@yRx) (@yBz)) (And.intro (@yRy) (And.intro (@yAv) (@yRz)))) (And.intro (And.intro (@yAw) (And.intro (@yQv) (@yAx))) (And.intro (@yQw) (And.intro (@yAy) (@yQx))))) (And.intro (And.intro (And.intro (@yAz) (@zVz)) (And.intro (@zTw) (And.intro (@zUv) (@zTx)))) (And.intro (And.intro (@zUw) (And.intro (@zTy) (@zUx))) (And.intro (@zTz) (And.intro (@zUy) (@zSv)))))) (And.intro (And.intro (And.intro (And.intro (@zUz) (@zSw)) (And.intro (@zTv) (And.intro (@zSx) (@ze_2)))) (And.intro (And.intro (@ze_3) (And.intro (@ze_4) (@zZv))) (And.intro (@zZw) (And.intro (@zZx) (@zZy))))) (And.intro (And.intro (And.intro (@zZz) (And.intro (@zYv) (@xDx))) (And.intro (@zYw) (And.intro (@zYx) (@zYy)))) (And.intro (And.intro (@zSy) (And.intro (@zRx) (@zRy))) (And.intro (@zRz) (And.intro (@zQv) (@zQw)))))))) (And.intro (And.intro (And.intro (And.intro (And.intro (And.intro (@zQx) (@zQy)) (And.intro (@zQz) (And.intro (@zPv) (@zPw)))) (And.intro (And.intro (@zPx) (And.intro (@zPy) (@zPz))) (And.intro (@zOv) (And.intro (@zOw) (@zOx))))) (And.intro (And.intro (And.intro (@zOy) (@zOz)) (And.intro (@zNv) (And.intro (@zNw) (@zNx)))) (And.intro (And.intro (@zNy) (And.intro (@zNz) (@zMv))) (And.intro (@zMw) (And.intro (@zMx) (@zMy)))))) (And.intro (And.intro (And.intro (And.intro (@zMz) (@yQy)) (And.intro (@yQz) (And.intro (@yPv) (@yPw)))) (And.intro (And.intro (@yPx) (And.intro (@yPy) (@yPz))) (And.intro (@yOv) (And.intro (@yOw) (@yOx))))) (And.intro (And.intro (And.intro (@yOy) (And.intro (@yOz) (@yNv))) (And.intro (@yNw) (And.intro (@yNx) (@yNy)))) (And.intro (And.intro (@yNz) (And.intro (@yMv) (@yMw))) (And.intro (@yMx) (And.intro (@yMy) (@yMz))))))) (And.intro (And.intro (And.intro (And.intro (And.intro (@yLv) (@yLw)) (And.intro (@yLx) (And.intro (@yLy) (@yLz)))) (And.intro (And.intro (@yKv) (And.intro (@yKw) (@yKx))) (And.intro (@yKy) (And.intro (@yKz) (@yJv))))) (And.intro (And.intro (And.intro (@yJw) (@yJx)) (And.intro (@yJy) (And.intro (@yJz) (@yIv)))) (And.intro (And.intro (@yIw) (And.intro (@yIx) (@yIy))) (And.intro (@yIz) (And.intro (@yHv) (@yHw)))))) (And.intro (And.intro (And.intro (And.intro (@yHx) (@yHy)) (And.intro (@yHz) (And.intro (@yGv) (@yGw)))) (And.intro (And.intro (@yGx) (And.intro (@zYz) (@zXv))) (And.intro (@yGy) (And.intro (@yGz) (@yFv))))) (And.intro (And.intro (And.intro (@yFw) (And.intro (@yFx) (@yFy))) (And.intro (@yFz) (And.intro (@yEv) (@yEw)))) (And.intro (And.intro (@yEx) (And.intro (@yEy) (@zXw))) (And.intro (@yEz) (And.intro (@yDv) (@zXx))))))))):=And.intro (And.intro (And.intro (And.intro (And.intro (And.intro (And.intro (@yWz) (@yVv)) (And.intro (@yVw) (And.intro (@yVx) (@yVy)))) (And.intro (And.intro (@yVz) (And.intro (@yUv) (@yUw))) (And.intro (@zVy) (And.intro (@ia_2) (@sz_2))))) (And.intro (And.intro (And.intro (@ia_3) (@sz_3)) (And.intro (@ia_4) (And.intro (@sz_4) (@yUx)))) (And.intro (And.intro (@yDw) (And.intro (@yUy) (@yDx))) (And.intro (@yUz) (And.intro (@yDy) (@yTv)))))) (And.intro (And.intro (And.intro (And.intro (@zWw) (@yTw)) (And.intro (@yDz) (And.intro (@yTx) (@yCv)))) (And.intro (And.intro (@yTy) (And.intro (@yCw) (@yTz))) (And.intro (@yCx) (And.intro (@ySv) (@yCy))))) (And.intro (And.intro (And.intro (@ySw) (And.intro (@yCz) (@ySx))) (And.intro (@zXz) (And.intro (@ySy) (@yBv)))) (And.intro (And.intro (@ySz) (And.intro (@yBw) (@yRv))) (And.intro (@yBx) (And.intro (@yRw) (@yBy))))))) (And.intro (And.intro (And.intro (And.intro (And.intro (@yRx) (@yBz)) (And.intro (@yRy) (And.intro (@yAv) (@yRz)))) (And.intro (And.intro (@yAw) (And.intro (@yQv) (@yAx))) (And.intro (@yQw) (And.intro (@yAy) (@yQx))))) (And.intro (And.intro (And.intro (@yAz) (@zVz)) (And.intro (@zTw) (And.intro (@zUv) (@zTx)))) (And.intro (And.intro (@zUw) (And.intro (@zTy) (@zUx))) (And.intro (@zTz) (And.intro (@zUy) (@zSv)))))) (And.intro (And.intro (And.intro (And.intro (@zUz) (@zSw)) (And.intro (@zTv) (And.intro (@zSx) (@ze_2)))) (And.intro (And.intro (@ze_3) (And.intro (@ze_4) (@zZv))) (And.intro (@zZw) (And.intro (@zZx) (@zZy))))) (And.intro (And.intro (And.intro (@zZz) (And.intro (@zYv) (@xDx))) (And.intro (@zYw) (And.intro (@zYx) (@zYy)))) (And.intro (And.intro (@zSy) (And.intro (@zRx) (@zRy))) (And.intro (@zRz) (And.intro (@zQv) (@zQw)))))))) (And.intro (And.intro (And.intro (And.intro (And.intro (And.intro (@zQx) (@zQy)) (And.intro (@zQz) (And.intro (@zPv) (@zPw)))) (And.intro (And.intro (@zPx) (And.intro (@zPy) (@zPz))) (And.intro (@zOv) (And.intro (@zOw) (@zOx))))) (And.intro (And.intro (And.intro (@zOy) (@zOz)) (And.intro (@zNv) (And.intro (@zNw) (@zNx)))) (And.intro (And.intro (@zNy) (And.intro (@zNz) (@zMv))) (And.intro (@zMw) (And.intro (@zMx) (@zMy)))))) (And.intro (And.intro (And.intro (And.intro (@zMz) (@yQy)) (And.intro (@yQz) (And.intro (@yPv) (@yPw)))) (And.intro (And.intro (@yPx) (And.intro (@yPy) (@yPz))) (And.intro (@yOv) (And.intro (@yOw) (@yOx))))) (And.intro (And.intro (And.intro (@yOy) (And.intro (@yOz) (@yNv))) (And.intro (@yNw) (And.intro (@yNx) (@yNy)))) (And.intro (And.intro (@yNz) (And.intro (@yMv) (@yMw))) (And.intro (@yMx) (And.intro (@yMy) (@yMz))))))) (And.intro (And.intro (And.intro (And.intro (And.intro (@yLv) (@yLw)) (And.intro (@yLx) (And.intro (@yLy) (@yLz)))) (And.intro (And.intro (@yKv) (And.intro (@yKw) (@yKx))) (And.intro (@yKy) (And.intro (@yKz) (@yJv))))) (And.intro (And.intro (And.intro (@yJw) (@yJx)) (And.intro (@yJy) (And.intro (@yJz) (@yIv)))) (And.intro (And.intro (@yIw) (And.intro (@yIx) (@yIy))) (And.intro (@yIz) (And.intro (@yHv) (@yHw)))))) (And.intro (And.intro (And.intro (And.intro (@yHx) (@yHy)) (And.intro (@yHz) (And.intro (@yGv) (@yGw)))) (And.intro (And.intro (@yGx) (And.intro (@zYz) (@zXv))) (And.intro (@yGy) (And.intro (@yGz) (@yFv))))) (And.intro (And.intro (And.intro (@yFw) (And.intro (@yFx) (@yFy))) (And.intro (@yFz) (And.intro (@yEv) (@yEw)))) (And.intro (And.intro (@yEx) (And.intro (@yEy) (@zXw))) (And.intro (@yEz) (And.intro (@yDv) (@zXx))))))))
theorem lawHolds (s lv q:AV) (hcap:Capd q) (ts:List Te) (ls:List Ln) (ms:List Int) (h:H) (xt:TestsR h s ts) (xl:LinesR h lv ls) (hq:Sl h q 1 ms.length (ms.map ii)) :
    (om Try.prog KK).call (.fn 6 [s,lv,q]) h = .ok (.bool true) h:=by
  have wf:=xt.wf
  have hls : ∀ h',lenE Try.prog 51 s h'=some (ii (ts.length:Int)):=fun h'=>xt.sl.len un_51
  have hlq : ∀ h',lenE Try.prog 22 q h'=some (ii (ms.length:Int)):=fun h'=>hq.len yZw
  have H1:=fun l w hw=>Holds s lv q hcap ts ls ms _ (xt.up l w hw) (xl.up l w hw) (hq.up wf l w)
  have H2:=fun l w hw=>refHolds s lv q hcap ts ls ms _ (xt.up l w hw) (xl.up l w hw) (hq.up wf l w)
  generalize holdsV ts ls ms true=u at *
  generalize holdsV ts ls ms false=v at *
  generalize holdsErr' ts ls ms.length=e at *
  have body : ∀ f:TF,f 0=s→f 1=lv→f 2=q → ∀ Q,Q=endQ Try.prog Try.f6.results.toList h (fun v h_1=>v=AV.bool true∧h_1=h)→True:=fun _ _ _ _ _ _=>trivial
  clear body
  refine zWy (zLx (fn:=Try.f6) Try.func6 rfl rfl rfl rfl rfl ?_)
  simp only [zLy]
  by_cases hs:(6<ts.length∧ts.length≤20)∨25<ts.length
  · (repeat' (first
  | (with_reducible first|refine zJw ?_|refine zHz ?_|refine zEv ?_|refine zEw ?_|refine zFz ?_|refine zJv ?_|refine zHy ?_|refine zBv ?_|refine zDx ?_|refine zCz ?_|refine zCw ?_|refine zEy ?_|refine zCv ?_|refine zCy ?_|refine zBy ?_|refine zDv ?_|refine zEz ?_|refine zAw ?_|refine zBz ?_)
  | refine zDz ?_|refine zEx rfl ?_|refine zJy ?_|refine zJx ?_
  | ((first|refine zGv rfl rfl rfl rfl rfl fun K_ hK_=>?_|refine zGw rfl rfl rfl rfl rfl fun K_ hK_=>?_);simp only [zAz,zDy,zGx,↓reduceIte,reduceCtorEq,Nat.reduceEqDiff,Bool.not_true,Bool.not_false];refine hK_ _ ?_;clear hK_ K_)
  | refine zDw (by decide) ?_
  | ((try first|refine zKy rfl rfl rfl ?_|refine zJz rfl rfl ?_|refine zKx rfl rfl rfl ?_|refine zIv rfl rfl ?_);(refine zIw fun Q_ hQ_=>?_;simp (disch:=first|omega|(simp only [List.length_cons,List.length_nil,List.length_append];omega)) only [bb,bp,zLy,↓reduceIte,reduceCtorEq,Nat.reduceEqDiff,Nat.reduceLT,Nat.reduceLeDiff,Nat.reduceAdd,Nat.reduceMul,Nat.reduceSub,Nat.reduceBEq,Int.reduceToNat,cond_true,cond_false,eq_self,beq_self_eq_true,hls,hlq,zFx wf,zGy wf,zBw wf,zFy wf,zAy wf,zAx,tEvD33,zIx,zIy,zIz,zHv,zFv,zAv wf];first|(refine zCx (Q:=Q_) (fun hp_=>?_) (fun hp_=>?_) <;> first|(exfalso;omega)|(refine hQ_ _ _ ?_;clear hQ_ Q_))|(refine zBx (Q:=Q_) (fun hp_=>?_) (fun hp_=>?_) <;> first|(exfalso;omega)|(refine hQ_ _ _ ?_;clear hQ_ Q_))|(refine hQ_ _ _ ?_;clear hQ_ Q_)|(refine zRv (works _) ?_;refine hQ_ _ _ ?_;clear hQ_ Q_)))
  | (refine zHx fun K_ hK_=>?_;simp (disch:=omega) only [zGz,zAz,zHw,↓reduceIte,reduceCtorEq,Nat.reduceEqDiff,Nat.reduceLT];refine hK_ _ ?_;clear hK_ K_)))
    all_goals (refine zKz _ _ rfl (ret1 (by decide)) ?_;simp only [zAz,↓reduceIte,reduceCtorEq,Nat.reduceEqDiff];refine zKw rfl (by omega) ?_)
    all_goals exact ⟨rfl,rfl⟩
  by_cases hg:Greater ls
  · (repeat' (first
  | (with_reducible first|refine zJw ?_|refine zHz ?_|refine zEv ?_|refine zEw ?_|refine zFz ?_|refine zJv ?_|refine zHy ?_|refine zBv ?_|refine zDx ?_|refine zCz ?_|refine zCw ?_|refine zEy ?_|refine zCv ?_|refine zCy ?_|refine zBy ?_|refine zDv ?_|refine zEz ?_|refine zAw ?_|refine zBz ?_)
  | refine zDz ?_|refine zEx rfl ?_|refine zJy ?_|refine zJx ?_
  | ((first|refine zGv rfl rfl rfl rfl rfl fun K_ hK_=>?_|refine zGw rfl rfl rfl rfl rfl fun K_ hK_=>?_);simp only [zAz,zDy,zGx,↓reduceIte,reduceCtorEq,Nat.reduceEqDiff,Bool.not_true,Bool.not_false];refine hK_ _ ?_;clear hK_ K_)
  | refine zDw (by decide) ?_
  | ((try first|refine zKy rfl rfl rfl ?_|refine zJz rfl rfl ?_|refine zKx rfl rfl rfl ?_|refine zIv rfl rfl ?_);(refine zIw fun Q_ hQ_=>?_;simp (disch:=first|omega|(simp only [List.length_cons,List.length_nil,List.length_append];omega)) only [bb,bp,zLy,↓reduceIte,reduceCtorEq,Nat.reduceEqDiff,Nat.reduceLT,Nat.reduceLeDiff,Nat.reduceAdd,Nat.reduceMul,Nat.reduceSub,Nat.reduceBEq,Int.reduceToNat,cond_true,cond_false,eq_self,beq_self_eq_true,hls,hlq,zFx wf,zGy wf,zBw wf,zFy wf,zAy wf,zAx,tEvD33,zIx,zIy,zIz,zHv,zFv,zAv wf];first|(refine zCx (Q:=Q_) (fun hp_=>?_) (fun hp_=>?_) <;> first|(exfalso;omega)|(refine hQ_ _ _ ?_;clear hQ_ Q_))|(refine zBx (Q:=Q_) (fun hp_=>?_) (fun hp_=>?_) <;> first|(exfalso;omega)|(refine hQ_ _ _ ?_;clear hQ_ Q_))|(refine hQ_ _ _ ?_;clear hQ_ Q_)|(refine zRv (greaterT lv ls hg _ (xl.up _ _ (by first|omega|(simp only [List.length_append,List.length_cons,List.length_nil];omega)))) ?_;refine hQ_ _ _ ?_;clear hQ_ Q_)|(refine zRv (works _) ?_;refine hQ_ _ _ ?_;clear hQ_ Q_)))
  | (refine zHx fun K_ hK_=>?_;simp (disch:=omega) only [zGz,zAz,zHw,↓reduceIte,reduceCtorEq,Nat.reduceEqDiff,Nat.reduceLT];refine hK_ _ ?_;clear hK_ K_)))
    all_goals (refine zKz _ _ rfl (ret1 (by decide)) ?_;simp only [zAz,↓reduceIte,reduceCtorEq,Nat.reduceEqDiff];refine zKw rfl (by omega) ?_)
    all_goals exact ⟨rfl,rfl⟩
  by_cases hm:30<ms.length
  · (repeat' (first
  | (with_reducible first|refine zJw ?_|refine zHz ?_|refine zEv ?_|refine zEw ?_|refine zFz ?_|refine zJv ?_|refine zHy ?_|refine zBv ?_|refine zDx ?_|refine zCz ?_|refine zCw ?_|refine zEy ?_|refine zCv ?_|refine zCy ?_|refine zBy ?_|refine zDv ?_|refine zEz ?_|refine zAw ?_|refine zBz ?_)
  | refine zDz ?_|refine zEx rfl ?_|refine zJy ?_|refine zJx ?_
  | ((first|refine zGv rfl rfl rfl rfl rfl fun K_ hK_=>?_|refine zGw rfl rfl rfl rfl rfl fun K_ hK_=>?_);simp only [zAz,zDy,zGx,↓reduceIte,reduceCtorEq,Nat.reduceEqDiff,Bool.not_true,Bool.not_false];refine hK_ _ ?_;clear hK_ K_)
  | refine zDw (by decide) ?_
  | ((try first|refine zKy rfl rfl rfl ?_|refine zJz rfl rfl ?_|refine zKx rfl rfl rfl ?_|refine zIv rfl rfl ?_);(refine zIw fun Q_ hQ_=>?_;simp (disch:=first|omega|(simp only [List.length_cons,List.length_nil,List.length_append];omega)) only [bb,bp,zLy,↓reduceIte,reduceCtorEq,Nat.reduceEqDiff,Nat.reduceLT,Nat.reduceLeDiff,Nat.reduceAdd,Nat.reduceMul,Nat.reduceSub,Nat.reduceBEq,Int.reduceToNat,cond_true,cond_false,eq_self,beq_self_eq_true,hls,hlq,zFx wf,zGy wf,zBw wf,zFy wf,zAy wf,zAx,tEvD33,zIx,zIy,zIz,zHv,zFv,zAv wf];first|(refine zCx (Q:=Q_) (fun hp_=>?_) (fun hp_=>?_) <;> first|(exfalso;omega)|(refine hQ_ _ _ ?_;clear hQ_ Q_))|(refine zBx (Q:=Q_) (fun hp_=>?_) (fun hp_=>?_) <;> first|(exfalso;omega)|(refine hQ_ _ _ ?_;clear hQ_ Q_))|(refine hQ_ _ _ ?_;clear hQ_ Q_)|(refine zRv (greaterF lv ls hg _ (xl.up _ _ (by first|omega|(simp only [List.length_append,List.length_cons,List.length_nil];omega)))) ?_;refine hQ_ _ _ ?_;clear hQ_ Q_)|(refine zRv (works _) ?_;refine hQ_ _ _ ?_;clear hQ_ Q_)))
  | (refine zHx fun K_ hK_=>?_;simp (disch:=omega) only [zGz,zAz,zHw,↓reduceIte,reduceCtorEq,Nat.reduceEqDiff,Nat.reduceLT];refine hK_ _ ?_;clear hK_ K_)))
    all_goals (refine zKz _ _ rfl (ret1 (by decide)) ?_;simp only [zAz,↓reduceIte,reduceCtorEq,Nat.reduceEqDiff];refine zKw rfl (by omega) ?_)
    all_goals exact ⟨rfl,rfl⟩
  (repeat' (first
  | (with_reducible first|refine zJw ?_|refine zHz ?_|refine zEv ?_|refine zEw ?_|refine zFz ?_|refine zJv ?_|refine zHy ?_|refine zBv ?_|refine zDx ?_|refine zCz ?_|refine zCw ?_|refine zEy ?_|refine zCv ?_|refine zCy ?_|refine zBy ?_|refine zDv ?_|refine zEz ?_|refine zAw ?_|refine zBz ?_)
  | refine zDz ?_|refine zEx rfl ?_|refine zJy ?_|refine zJx ?_
  | ((first|refine zGv rfl rfl rfl rfl rfl fun K_ hK_=>?_|refine zGw rfl rfl rfl rfl rfl fun K_ hK_=>?_);simp only [zAz,zDy,zGx,↓reduceIte,reduceCtorEq,Nat.reduceEqDiff,Bool.not_true,Bool.not_false];refine hK_ _ ?_;clear hK_ K_)
  | refine zDw (by decide) ?_
  | ((try first|refine zKy rfl rfl rfl ?_|refine zJz rfl rfl ?_|refine zKx rfl rfl rfl ?_|refine zIv rfl rfl ?_);(refine zIw fun Q_ hQ_=>?_;simp (disch:=first|omega|(simp only [List.length_cons,List.length_nil,List.length_append];omega)) only [bb,bp,zLy,↓reduceIte,reduceCtorEq,Nat.reduceEqDiff,Nat.reduceLT,Nat.reduceLeDiff,Nat.reduceAdd,Nat.reduceMul,Nat.reduceSub,Nat.reduceBEq,Int.reduceToNat,cond_true,cond_false,eq_self,beq_self_eq_true,hls,hlq,zFx wf,zGy wf,zBw wf,zFy wf,zAy wf,zAx,tEvD33,zIx,zIy,zIz,zHv,zFv,zAv wf];first|(refine zCx (Q:=Q_) (fun hp_=>?_) (fun hp_=>?_) <;> first|(exfalso;omega)|(refine hQ_ _ _ ?_;clear hQ_ Q_))|(refine zBx (Q:=Q_) (fun hp_=>?_) (fun hp_=>?_) <;> first|(exfalso;omega)|(refine hQ_ _ _ ?_;clear hQ_ Q_))|(refine hQ_ _ _ ?_;clear hQ_ Q_)|(refine zRv (greaterF lv ls hg _ (xl.up _ _ (by first|omega|(simp only [List.length_append,List.length_cons,List.length_nil];omega)))) ?_;refine hQ_ _ _ ?_;clear hQ_ Q_)))
  | (refine zHx fun K_ hK_=>?_;simp (disch:=omega) only [zGz,zAz,zHw,↓reduceIte,reduceCtorEq,Nat.reduceEqDiff,Nat.reduceLT];refine hK_ _ ?_;clear hK_ K_)))
  all_goals (refine zVw (fun (i:Nat) f d h'=>i≤ts.length∧f 0=s∧f 1=lv∧f 2=q∧f 7=ii (i:Int)∧d=[]∧h'=X h [] h.clock) (fun i=>ts.length - i) ?_ (ts.length+1) 0 (by omega) ?_)
  all_goals try (exact ⟨Nat.zero_le _,by simp only [zAz,↓reduceIte,reduceCtorEq,Nat.reduceEqDiff],by simp only [zAz,↓reduceIte,reduceCtorEq,Nat.reduceEqDiff],by simp only [zAz,↓reduceIte,reduceCtorEq,Nat.reduceEqDiff],by first|(simp only [zAz,↓reduceIte,reduceCtorEq,Nat.reduceEqDiff];done)|(simp only [zAz,↓reduceIte,reduceCtorEq,Nat.reduceEqDiff];rfl),rfl,rfl⟩)
  all_goals (rintro i f d h' ⟨hi,g0,g1,g2,g7,rfl,rfl⟩)
  all_goals (by_cases hlt:i<ts.length)
  all_goals first
    | (obtain ⟨id,off,hix,hld⟩:=xt.at hlt
       simp only [teC] at hld
       by_cases hsl:Slow ts[i]
       · have hsd:=decide_eq_true hsl
         clear hsl
         generalize ts[i]=T at *
         (repeat' (first
  | (with_reducible first|refine zJw ?_|refine zHz ?_|refine zEv ?_|refine zEw ?_|refine zFz ?_|refine zJv ?_|refine zHy ?_|refine zBv ?_|refine zDx ?_|refine zCz ?_|refine zCw ?_|refine zEy ?_|refine zCv ?_|refine zCy ?_|refine zBy ?_|refine zDv ?_|refine zEz ?_|refine zAw ?_|refine zBz ?_)
  | refine zDz ?_|refine zEx rfl ?_|refine zJy ?_|refine zJx ?_
  | ((first|refine zGv rfl rfl rfl rfl rfl fun K_ hK_=>?_|refine zGw rfl rfl rfl rfl rfl fun K_ hK_=>?_);simp only [zAz,zDy,zGx,↓reduceIte,reduceCtorEq,Nat.reduceEqDiff,Bool.not_true,Bool.not_false];refine hK_ _ ?_;clear hK_ K_)
  | refine zDw (by decide) ?_
  | ((try first|refine zKy rfl rfl rfl ?_|refine zJz rfl rfl ?_|refine zKx rfl rfl rfl ?_|refine zIv rfl rfl ?_);(refine zIw fun Q_ hQ_=>?_;simp (disch:=first|omega|(simp only [List.length_cons,List.length_nil,List.length_append];omega)) only [bb,bp,zLy,↓reduceIte,reduceCtorEq,Nat.reduceEqDiff,Nat.reduceLT,Nat.reduceLeDiff,Nat.reduceAdd,Nat.reduceMul,Nat.reduceSub,Nat.reduceBEq,Int.reduceToNat,cond_true,cond_false,eq_self,beq_self_eq_true,g0,g1,g2,g7,hls,hix,hld,zFx wf,zGy wf,zBw wf,zFy wf,zAy wf,zAx,tEvD33,zIx,zIy,zIz,zHv,zFv,zAv wf];first|(refine zCx (Q:=Q_) (fun hp_=>?_) (fun hp_=>?_) <;> first|(exfalso;omega)|(refine hQ_ _ _ ?_;clear hQ_ Q_))|(refine zBx (Q:=Q_) (fun hp_=>?_) (fun hp_=>?_) <;> first|(exfalso;omega)|(refine hQ_ _ _ ?_;clear hQ_ Q_))|(refine hQ_ _ _ ?_;clear hQ_ Q_)|(refine zRv ((slow T _ (wf.X (by first|omega|(simp only [List.length_append,List.length_cons,List.length_nil];omega)))).trans (by rw [hsd])) ?_;refine hQ_ _ _ ?_;clear hQ_ Q_)|(refine zRv (works _) ?_;refine hQ_ _ _ ?_;clear hQ_ Q_)))
  | (refine zHx fun K_ hK_=>?_;simp (disch:=omega) only [zGz,zAz,zHw,↓reduceIte,reduceCtorEq,Nat.reduceEqDiff,Nat.reduceLT];refine hK_ _ ?_;clear hK_ K_)))
         (refine zKz _ _ rfl (ret1 (by decide)) ?_;simp only [zAz,↓reduceIte,reduceCtorEq,Nat.reduceEqDiff];refine zKw rfl (by omega) ?_)
         exact ⟨rfl,rfl⟩
       · have hsd:=decide_eq_false hsl
         clear hsl
         generalize ts[i]=T at *
         (repeat' (first
  | (with_reducible first|refine zJw ?_|refine zHz ?_|refine zEv ?_|refine zEw ?_|refine zFz ?_|refine zJv ?_|refine zHy ?_|refine zBv ?_|refine zDx ?_|refine zCz ?_|refine zCw ?_|refine zEy ?_|refine zCv ?_|refine zCy ?_|refine zBy ?_|refine zDv ?_|refine zEz ?_|refine zAw ?_|refine zBz ?_)
  | refine zDz ?_|refine zEx rfl ?_|refine zJy ?_|refine zJx ?_
  | ((first|refine zGv rfl rfl rfl rfl rfl fun K_ hK_=>?_|refine zGw rfl rfl rfl rfl rfl fun K_ hK_=>?_);simp only [zAz,zDy,zGx,↓reduceIte,reduceCtorEq,Nat.reduceEqDiff,Bool.not_true,Bool.not_false];refine hK_ _ ?_;clear hK_ K_)
  | refine zDw (by decide) ?_
  | ((try first|refine zKy rfl rfl rfl ?_|refine zJz rfl rfl ?_|refine zKx rfl rfl rfl ?_|refine zIv rfl rfl ?_);(refine zIw fun Q_ hQ_=>?_;simp (disch:=first|omega|(simp only [List.length_cons,List.length_nil,List.length_append];omega)) only [bb,bp,zLy,↓reduceIte,reduceCtorEq,Nat.reduceEqDiff,Nat.reduceLT,Nat.reduceLeDiff,Nat.reduceAdd,Nat.reduceMul,Nat.reduceSub,Nat.reduceBEq,Int.reduceToNat,cond_true,cond_false,eq_self,beq_self_eq_true,g0,g1,g2,g7,hls,hix,hld,zFx wf,zGy wf,zBw wf,zFy wf,zAy wf,zAx,tEvD33,zIx,zIy,zIz,zHv,zFv,zAv wf];first|(refine zCx (Q:=Q_) (fun hp_=>?_) (fun hp_=>?_) <;> first|(exfalso;omega)|(refine hQ_ _ _ ?_;clear hQ_ Q_))|(refine zBx (Q:=Q_) (fun hp_=>?_) (fun hp_=>?_) <;> first|(exfalso;omega)|(refine hQ_ _ _ ?_;clear hQ_ Q_))|(refine hQ_ _ _ ?_;clear hQ_ Q_)|(refine zRv ((slow T _ (wf.X (by first|omega|(simp only [List.length_append,List.length_cons,List.length_nil];omega)))).trans (by rw [hsd])) ?_;refine hQ_ _ _ ?_;clear hQ_ Q_)))
  | (refine zHx fun K_ hK_=>?_;simp (disch:=omega) only [zGz,zAz,zHw,↓reduceIte,reduceCtorEq,Nat.reduceEqDiff,Nat.reduceLT];refine hK_ _ ?_;clear hK_ K_)))
         refine zLz (i+1) (by omega) ⟨hlt,by simp only [zAz,↓reduceIte,reduceCtorEq,Nat.reduceEqDiff];exact g0,by simp only [zAz,↓reduceIte,reduceCtorEq,Nat.reduceEqDiff];exact g1,by simp only [zAz,↓reduceIte,reduceCtorEq,Nat.reduceEqDiff];exact g2,by simp only [zAz,↓reduceIte,reduceCtorEq,Nat.reduceEqDiff];rfl,rfl,rfl⟩)
    | ((repeat' (first
  | (with_reducible first|refine zJw ?_|refine zHz ?_|refine zEv ?_|refine zEw ?_|refine zFz ?_|refine zJv ?_|refine zHy ?_|refine zBv ?_|refine zDx ?_|refine zCz ?_|refine zCw ?_|refine zEy ?_|refine zCv ?_|refine zCy ?_|refine zBy ?_|refine zDv ?_|refine zEz ?_|refine zAw ?_|refine zBz ?_)
  | refine zDz ?_|refine zEx rfl ?_|refine zJy ?_|refine zJx ?_
  | ((first|refine zGv rfl rfl rfl rfl rfl fun K_ hK_=>?_|refine zGw rfl rfl rfl rfl rfl fun K_ hK_=>?_);simp only [zAz,zDy,zGx,↓reduceIte,reduceCtorEq,Nat.reduceEqDiff,Bool.not_true,Bool.not_false];refine hK_ _ ?_;clear hK_ K_)
  | refine zDw (by decide) ?_
  | ((try first|refine zKy rfl rfl rfl ?_|refine zJz rfl rfl ?_|refine zKx rfl rfl rfl ?_|refine zIv rfl rfl ?_);(refine zIw fun Q_ hQ_=>?_;simp (disch:=first|omega|(simp only [List.length_cons,List.length_nil,List.length_append];omega)) only [bb,bp,zLy,↓reduceIte,reduceCtorEq,Nat.reduceEqDiff,Nat.reduceLT,Nat.reduceLeDiff,Nat.reduceAdd,Nat.reduceMul,Nat.reduceSub,Nat.reduceBEq,Int.reduceToNat,cond_true,cond_false,eq_self,beq_self_eq_true,g0,g1,g2,g7,hls,zFx wf,zGy wf,zBw wf,zFy wf,zAy wf,zAx,tEvD33,zIx,zIy,zIz,zHv,zFv,zAv wf];first|(refine zCx (Q:=Q_) (fun hp_=>?_) (fun hp_=>?_) <;> first|(exfalso;omega)|(refine hQ_ _ _ ?_;clear hQ_ Q_))|(refine zBx (Q:=Q_) (fun hp_=>?_) (fun hp_=>?_) <;> first|(exfalso;omega)|(refine hQ_ _ _ ?_;clear hQ_ Q_))|(refine hQ_ _ _ ?_;clear hQ_ Q_)|(refine zRv (H1 _ _ (by first|omega|(simp only [List.length_append,List.length_cons,List.length_nil];omega))) ?_;refine hQ_ _ _ ?_;clear hQ_ Q_)|(refine zRv (H2 _ _ (by first|omega|(simp only [List.length_append,List.length_cons,List.length_nil];omega))) ?_;refine hQ_ _ _ ?_;clear hQ_ Q_)|(refine zRv (works _) ?_;refine hQ_ _ _ ?_;clear hQ_ Q_)))
  | (refine zHx fun K_ hK_=>?_;simp (disch:=omega) only [zGz,zAz,zHw,↓reduceIte,reduceCtorEq,Nat.reduceEqDiff,Nat.reduceLT];refine hK_ _ ?_;clear hK_ K_)))
       (refine zKz _ _ rfl (ret1 (by decide)) ?_;simp only [zAz,↓reduceIte,reduceCtorEq,Nat.reduceEqDiff];refine zKw rfl (by omega) ?_)
       exact ⟨rfl,rfl⟩)
end Go.Proofs.Ythaleckfgcgegaa
end

section
namespace Go.Proofs.Ythaleckfgcgegaa.dragHolds
open Go.ChangeShapes Go.WideShapes Go.ChangeAt Go.RowKit Go.Ev
set_option maxRecDepth 100000
set_option maxHeartbeats 0

theorem contract (H:Type) (enc:TypeId × Value→H) (W:World) (base:Nat) (args:Array Value) (ds gs:List (DataW H)) (before:List MemPlace) (hval : ∀ (j:Nat) t v,Try.f6.params[j]? = some t→args[j]? = some v→Value.okWide Try.prog W .any base t v)
    (hW:DataW.Whole enc Try.prog Try.f6.params.toList Rows.dragHoldsSpec.vars false W args.toList ds gs before) :
    Calls Try.prog 6 args W fun e W'=>∃ v,e = .returned v∧Rows.dragHoldsSpec.post enc Try.prog Try.f6 false true false false W args v W':=by
  have hW':=hW
  obtain ⟨p,q,hA0,hV,rfl,hfz,hnd⟩:=hW
  have hA:DataW.TrodAll enc Try.prog W 0 (fun _=>true) true Try.f6.params.toList args.toList ds p:=hA0
  rw [Try.params6] at hA hval
  obtain ⟨v0,v1,v2,d0,d1,d2,p0,p1,p2,rfl,rfl,rfl,⟨n0,h0⟩,⟨n1,h1⟩,⟨n2,h2⟩⟩:=trodAll_three hA
  have k0:=(xNw (P:=Try.prog) Try.underlying51 (fun _ e=>by cases e) (fun _ _ e=>by cases e) (hval 0 51 v0 rfl rfl))
  rw [xMw Try.underlying51 k0] at h0
  obtain ⟨a0,ls0,w0,x0⟩:=tests_in k0 h0
  have k1:=(xNw (P:=Try.prog) Try.underlying43 (fun _ e=>by cases e) (fun _ _ e=>by cases e) (hval 1 43 v1 rfl rfl))
  rw [xMw Try.underlying43 k1] at h1
  obtain ⟨a1,ls1,w1,q1,x1⟩:=lines_in k1 h1
  have k2:=(xNw (P:=Try.prog) Try.underlying22 (fun _ e=>by cases e) (fun _ _ e=>by cases e) (hval 2 22 v2 rfl rfl))
  rw [xMw Try.underlying22 k2] at h2
  obtain ⟨a2,ls2,w2,q2,x2⟩:=limits_in k2 h2
  have walk:=lawHolds a0 a1 a2 q2 ls0 ls1 ls2 (startW W) x0 x1 x2
  have hargs:VL (startWR W) [a0,a1,a2] (#[v0,v1,v2]:Array Value).toList:=(.cons _ _ _ _ w0 (.cons _ _ _ _ w1 (.cons _ _ _ _ w2 .nil)))
  refine (startW_true (P:=Try.prog) mixed (K:=KK) (fun c hc=>by
    have:c=cW:=List.mem_singleton.1 hc
    rw [this];exact cW_ok) walk hargs).mono fun e W' ⟨he,hgr,hs⟩=>?_
  subst he
  refine ⟨_,rfl,law_post laidOut (by
    rw [Try.params6]
    intro t ht
    rcases List.mem_cons.1 ht with rfl|ht
    · exact ⟨by kernel_rfl,of_decide_eq_true (by kernel_rfl)⟩
    rcases List.mem_cons.1 ht with rfl|ht
    · exact ⟨by kernel_rfl,of_decide_eq_true (by kernel_rfl)⟩
    rcases List.mem_cons.1 ht with rfl|ht
    · exact ⟨by kernel_rfl,of_decide_eq_true (by kernel_rfl)⟩
    cases ht) rfl (by kernel_rfl) Try.underlying4 (fun gs' ⟨q',hq⟩=>?_) hW' hgr hs⟩
  obtain ⟨rfl,_⟩:=trodVars_none hq
  exact ⟨rfl,rfl,rfl⟩

theorem lifted (os:Os) (started:os.Started) (H:Type) (enc:TypeId × Value→H) :
    ReturnsInHanded {} Try.checked os 6 .any (Rows.dragHoldsSpec.pre6 enc Try.prog Try.f6 Rows.dragHoldsRow.domain false) (Rows.dragHoldsSpec.post enc Try.prog Try.f6 false true false false):=by
  refine returnsInHanded_of_change (C:=Try.checked) own started (by kernel_rfl) Try.func6
    (ChangeSpec.witness6 (enc:=enc) (C:=Try.checked) false ⟨#[],#[.slice none 0 0,.slice none 0 0,.slice none 0 0],[]⟩ 8 (by kernel_rfl) (by kernel_rfl) (by kernel_rfl) (by kernel_rfl)) ?_
  intro W base args ds gs before hval hW _ _
  exact contract H enc W base args ds gs before hval hW

theorem holds :Rows.DragHoldsSaid:=
  OpenClaim.holds_of_wide 6 Try.f6 rfl rfl rfl rfl rfl rfl rfl ⟨rfl,rfl,rfl,rfl,rfl⟩ rfl rfl rfl rfl rfl (by kernel_rfl) Try.func6 (by kernel_rfl)
    (of_decide_eq_true (by kernel_rfl)) (by unfold Func.isWrapper;first|(rw [if_pos (by decide +kernel)];kernel_rfl)|(rw [if_neg (by decide +kernel)];exact ⟨rfl,rfl⟩))
    (fun os started H enc _=>lifted os started H enc)
end Go.Proofs.Ythaleckfgcgegaa.dragHolds
end
