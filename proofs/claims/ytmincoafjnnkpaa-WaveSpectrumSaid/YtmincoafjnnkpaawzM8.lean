/- The statement WaveSpectrum of layer 5: a spectrum is the same from its end, and stays if bits are turned round, read from their end, or if 0 and 1 change places; the sum of all its numbers is the square of how many more bits are 0 than 1, for all lists and numbers; no condition. -/
import Derived.Test.YtmincoafjnnkpaawzM7
import Derived.Test.YtmincoafjnnkpaaRows
import Derived.WalkKit
import Derived.ProofKit
import Derived.OpenShut
set_option linter.all false
section
namespace Go.Proofs.Ytmincoafjnnkpaa
open Go.Ev
set_option maxRecDepth 100000
set_option linter.unusedSimpArgs false
set_option linter.unusedVariables false
set_option maxHeartbeats 2000000
theorem tEvZ12 :type_of% (And.intro (And.intro (And.intro (And.intro (And.intro (And.intro (And.intro (@ySz) (@yRv)) (And.intro (@yRw) (@yRx))) (And.intro (And.intro (@yRy) (@yRz)) (And.intro (@ia_2) (And.intro (@ia_3) (@ia_4))))) (And.intro (And.intro (And.intro (@ia_5) (@yQv)) (And.intro (@yQw) (@yQx))) (And.intro (And.intro (@yQy) (@yQz)) (And.intro (@yPv) (And.intro (@zSx) (@yPw)))))) (And.intro (And.intro (And.intro (And.intro (@yPx) (@yPy)) (And.intro (@yPz) (@yOv))) (And.intro (And.intro (@yOw) (@yOx)) (And.intro (@yOy) (And.intro (@yOz) (@sz_2))))) (And.intro (And.intro (And.intro (@sz_3) (@sz_4)) (And.intro (@sz_5) (And.intro (@zZv) (@zZw)))) (And.intro (And.intro (@zZx) (@zZy)) (And.intro (@zZz) (And.intro (@zYv) (@zSz))))))) (And.intro (And.intro (And.intro (And.intro (And.intro (@zYw) (@zYx)) (And.intro (@zYy) (@zRy))) (And.intro (And.intro (@zYz) (@zXv)) (And.intro (@zXw) (And.intro (@zXx) (@zXy))))) (And.intro (And.intro (And.intro (@ze_2) (@ze_3)) (And.intro (@ze_4) (And.intro (@ze_5) (@zXz)))) (And.intro (And.intro (@zWv) (@zWw)) (And.intro (@zWx) (And.intro (@zWy) (@zWz)))))) (And.intro (And.intro (And.intro (And.intro (@zVv) (@zVw)) (And.intro (@zVx) (@zVy))) (And.intro (And.intro (@zVz) (@zUv)) (And.intro (@zUw) (And.intro (@zUx) (@zUy))))) (And.intro (And.intro (And.intro (@zNv) (@zNw)) (And.intro (@zNx) (And.intro (@zNy) (@zNz)))) (And.intro (And.intro (@zMv) (@zMw)) (And.intro (@zMx) (And.intro (@zMy) (@yNx)))))))) (And.intro (And.intro (And.intro (And.intro (And.intro (And.intro (@yNy) (@yNz)) (And.intro (@yMv) (@yMw))) (And.intro (And.intro (@yMx) (@yMy)) (And.intro (@yMz) (And.intro (@yLv) (@yLw))))) (And.intro (And.intro (And.intro (@yLx) (@yLy)) (And.intro (@yLz) (@yKv))) (And.intro (And.intro (@yKw) (@yKx)) (And.intro (@yKy) (And.intro (@yKz) (@yJv)))))) (And.intro (And.intro (And.intro (And.intro (@yJw) (@yJx)) (And.intro (@yJy) (@yJz))) (And.intro (And.intro (@yIv) (@yIw)) (And.intro (@yIx) (And.intro (@yIy) (@yIz))))) (And.intro (And.intro (And.intro (@yHv) (@yHw)) (And.intro (@yHx) (And.intro (@yHy) (@yHz)))) (And.intro (And.intro (@yGv) (@yGw)) (And.intro (@yGx) (And.intro (@yGy) (@yGz))))))) (And.intro (And.intro (And.intro (And.intro (And.intro (@yFv) (@yFw)) (And.intro (@yFx) (@yFy))) (And.intro (And.intro (@yFz) (@yEv)) (And.intro (@yEw) (And.intro (@yEx) (@yEy))))) (And.intro (And.intro (And.intro (@yEz) (@yDv)) (And.intro (@yDw) (And.intro (@yDx) (@yDy)))) (And.intro (And.intro (@zSw) (@yDz)) (And.intro (@yCv) (And.intro (@yCw) (@yCx)))))) (And.intro (And.intro (And.intro (And.intro (@yCy) (@yCz)) (And.intro (@yBv) (@yBw))) (And.intro (And.intro (@yBx) (@yBy)) (And.intro (@yBz) (And.intro (@yAv) (@yAw))))) (And.intro (And.intro (And.intro (@yAx) (@yAy)) (And.intro (@zPw) (And.intro (@zTx) (@zTy)))) (And.intro (And.intro (@zSy) (@zTz)) (And.intro (@zSv) (And.intro (@yNv) (@yNw))))))))):=And.intro (And.intro (And.intro (And.intro (And.intro (And.intro (And.intro (@ySz) (@yRv)) (And.intro (@yRw) (@yRx))) (And.intro (And.intro (@yRy) (@yRz)) (And.intro (@ia_2) (And.intro (@ia_3) (@ia_4))))) (And.intro (And.intro (And.intro (@ia_5) (@yQv)) (And.intro (@yQw) (@yQx))) (And.intro (And.intro (@yQy) (@yQz)) (And.intro (@yPv) (And.intro (@zSx) (@yPw)))))) (And.intro (And.intro (And.intro (And.intro (@yPx) (@yPy)) (And.intro (@yPz) (@yOv))) (And.intro (And.intro (@yOw) (@yOx)) (And.intro (@yOy) (And.intro (@yOz) (@sz_2))))) (And.intro (And.intro (And.intro (@sz_3) (@sz_4)) (And.intro (@sz_5) (And.intro (@zZv) (@zZw)))) (And.intro (And.intro (@zZx) (@zZy)) (And.intro (@zZz) (And.intro (@zYv) (@zSz))))))) (And.intro (And.intro (And.intro (And.intro (And.intro (@zYw) (@zYx)) (And.intro (@zYy) (@zRy))) (And.intro (And.intro (@zYz) (@zXv)) (And.intro (@zXw) (And.intro (@zXx) (@zXy))))) (And.intro (And.intro (And.intro (@ze_2) (@ze_3)) (And.intro (@ze_4) (And.intro (@ze_5) (@zXz)))) (And.intro (And.intro (@zWv) (@zWw)) (And.intro (@zWx) (And.intro (@zWy) (@zWz)))))) (And.intro (And.intro (And.intro (And.intro (@zVv) (@zVw)) (And.intro (@zVx) (@zVy))) (And.intro (And.intro (@zVz) (@zUv)) (And.intro (@zUw) (And.intro (@zUx) (@zUy))))) (And.intro (And.intro (And.intro (@zNv) (@zNw)) (And.intro (@zNx) (And.intro (@zNy) (@zNz)))) (And.intro (And.intro (@zMv) (@zMw)) (And.intro (@zMx) (And.intro (@zMy) (@yNx)))))))) (And.intro (And.intro (And.intro (And.intro (And.intro (And.intro (@yNy) (@yNz)) (And.intro (@yMv) (@yMw))) (And.intro (And.intro (@yMx) (@yMy)) (And.intro (@yMz) (And.intro (@yLv) (@yLw))))) (And.intro (And.intro (And.intro (@yLx) (@yLy)) (And.intro (@yLz) (@yKv))) (And.intro (And.intro (@yKw) (@yKx)) (And.intro (@yKy) (And.intro (@yKz) (@yJv)))))) (And.intro (And.intro (And.intro (And.intro (@yJw) (@yJx)) (And.intro (@yJy) (@yJz))) (And.intro (And.intro (@yIv) (@yIw)) (And.intro (@yIx) (And.intro (@yIy) (@yIz))))) (And.intro (And.intro (And.intro (@yHv) (@yHw)) (And.intro (@yHx) (And.intro (@yHy) (@yHz)))) (And.intro (And.intro (@yGv) (@yGw)) (And.intro (@yGx) (And.intro (@yGy) (@yGz))))))) (And.intro (And.intro (And.intro (And.intro (And.intro (@yFv) (@yFw)) (And.intro (@yFx) (@yFy))) (And.intro (And.intro (@yFz) (@yEv)) (And.intro (@yEw) (And.intro (@yEx) (@yEy))))) (And.intro (And.intro (And.intro (@yEz) (@yDv)) (And.intro (@yDw) (And.intro (@yDx) (@yDy)))) (And.intro (And.intro (@zSw) (@yDz)) (And.intro (@yCv) (And.intro (@yCw) (@yCx)))))) (And.intro (And.intro (And.intro (And.intro (@yCy) (@yCz)) (And.intro (@yBv) (@yBw))) (And.intro (And.intro (@yBx) (@yBy)) (And.intro (@yBz) (And.intro (@yAv) (@yAw))))) (And.intro (And.intro (And.intro (@yAx) (@yAy)) (And.intro (@zPw) (And.intro (@zTx) (@zTy)))) (And.intro (And.intro (@zSy) (@zTz)) (And.intro (@zSv) (And.intro (@yNv) (@yNw))))))))
theorem works (h:H):(om Try.prog KK).call (.fn 15 []) h = .ok (.bool true) h:=by
  refine om_con (c:=cW) (r:=[]) ?_
  rfl
def regE (bs ts:List Bool):Int:=if makesB (bN ts) ts.length (sq bs) bs.length then 0 else 14
def errReg (xs ys:List Int):Int:=if err2 xs ys=0 then regE (bitL xs) (bitL ys) else err2 xs ys
theorem ints (xs ys:List Int) (hn:xs.length≤1000000) (a b:AV) (h:H) (wf:Wf h) (hs:Sl h a 1 xs.length (xs.map ii)) (ht:Sl h b 1 ys.length (ys.map ii)):(om Try.prog KK).call (.fn 20 [a,b]) h = .ok (.bool (decide (xs=ys))) h:=by
  have hl : ∀ h',lenE Try.prog 22 a h'=some (ii (xs.length:Int)):=fun h'=>hs.len yZz
  have hl2 : ∀ h',lenE Try.prog 22 b h'=some (ii (ys.length:Int)):=fun h'=>ht.len yZz
  refine ySv (zLv (fn:=Try.f20) Try.func20 rfl rfl rfl rfl rfl ?_)
  simp only [zLx]
  by_cases he:xs.length=ys.length
  · have hd:((xs.length:Int)=(ys.length:Int)):=by omega
    (repeat' (first
  | (with_reducible first|refine zJw ?_|refine zGv ?_|refine zFz ?_|refine zEv ?_|refine zFy ?_|refine zJv ?_|refine zHz ?_|refine zCz ?_|refine zDw ?_|refine zCy ?_|refine zCv ?_|refine zEx ?_|refine zDz ?_|refine zCx ?_|refine zBx ?_|refine zEz ?_|refine zEy ?_|refine zBz ?_|refine zBy ?_)
  | refine zDy ?_|refine zEw rfl ?_|refine zJz ?_|refine zJx ?_
  | ((first|refine zGw rfl rfl rfl rfl rfl fun K_ hK_=>?_|refine zGx rfl rfl rfl rfl rfl fun K_ hK_=>?_);simp only [zAz,zDx,zGz,↓reduceIte,reduceCtorEq,Nat.reduceEqDiff,Bool.not_true,Bool.not_false];refine hK_ _ ?_;clear hK_ K_)
  | refine zDv (by decide) ?_
  | ((try first|refine zKx rfl rfl rfl ?_|refine zIv rfl rfl ?_|refine zKw rfl rfl rfl ?_|refine zJy rfl rfl ?_);(refine zIw fun Q_ hQ_=>?_;simp (disch:=first|omega|(simp only [List.length_cons,List.length_nil,List.length_append];omega)) only [bb,bp,zLx,↓reduceIte,reduceCtorEq,Nat.reduceEqDiff,Nat.reduceLT,Nat.reduceLeDiff,Nat.reduceAdd,Nat.reduceMul,Nat.reduceSub,Nat.reduceBEq,Int.reduceToNat,cond_true,cond_false,eq_self,beq_self_eq_true,hl,hl2,zFw wf,zGy wf,zBv wf,zFx wf,zAy wf,zAw,tEvZ12,zIy,zIz,zHv,zHw,zAv wf];first|(refine zCw (Q:=Q_) (fun hp_=>?_) (fun hp_=>?_) <;> first|(exfalso;omega)|(refine hQ_ _ _ ?_;clear hQ_ Q_))|(refine zBw (Q:=Q_) (fun hp_=>?_) (fun hp_=>?_) <;> first|(exfalso;omega)|(refine hQ_ _ _ ?_;clear hQ_ Q_))|(refine hQ_ _ _ ?_;clear hQ_ Q_)))
  | (refine zHy fun K_ hK_=>?_;simp (disch:=omega) only [zFv,zAz,zHx,↓reduceIte,reduceCtorEq,Nat.reduceEqDiff,Nat.reduceLT];refine hK_ _ ?_;clear hK_ K_)))
    refine zQx (α:=Nat) (fun (i:Nat) f d h'=>i≤xs.length∧xs.take i=ys.take i∧f 0=a∧f 1=b∧f 5=ii (i:Int)∧d=[]∧h'=X h [] h.clock) (fun i=>xs.length - i) ?_ (xs.length+1) 0 (by omega) ?_
    · rintro i f d h' ⟨hi,heq,g0,g1,g5,rfl,rfl⟩
      by_cases hlt:i<xs.length
      · obtain ⟨id,off,hix,hld⟩:=hs.at1 wf hlt zPw
        obtain ⟨id2,off2,hix2,hld2⟩:=ht.at1 wf (i:=i) (by omega) zPw
        have hld : ∀ l w,load1 id off (X h l w)=some (ii xs[i]):=fun l w=>by
          rw [hld,List.getElem?_map,List.getElem?_eq_getElem hlt];rfl
        have hld2 : ∀ l w,load1 id2 off2 (X h l w)=some (ii ys[i]):=fun l w=>by
          rw [hld2,List.getElem?_map,List.getElem?_eq_getElem (by omega)];rfl
        have e1:xs[i]=ys[i]→xs.take (i+1)=ys.take (i+1):=fun e=>by
          rw [List.take_succ_eq_append_getElem hlt,List.take_succ_eq_append_getElem (by omega),heq,e]
        have e2 : ¬ xs[i]=ys[i] → ¬ xs=ys:=fun e h=>e (by subst h;rfl)
        generalize xs[i]=u at *
        generalize ys[i]=v at *
        (repeat' (first
  | (with_reducible first|refine zJw ?_|refine zGv ?_|refine zFz ?_|refine zEv ?_|refine zFy ?_|refine zJv ?_|refine zHz ?_|refine zCz ?_|refine zDw ?_|refine zCy ?_|refine zCv ?_|refine zEx ?_|refine zDz ?_|refine zCx ?_|refine zBx ?_|refine zEz ?_|refine zEy ?_|refine zBz ?_|refine zBy ?_)
  | refine zDy ?_|refine zEw rfl ?_|refine zJz ?_|refine zJx ?_
  | ((first|refine zGw rfl rfl rfl rfl rfl fun K_ hK_=>?_|refine zGx rfl rfl rfl rfl rfl fun K_ hK_=>?_);simp only [zAz,zDx,zGz,↓reduceIte,reduceCtorEq,Nat.reduceEqDiff,Bool.not_true,Bool.not_false];refine hK_ _ ?_;clear hK_ K_)
  | refine zDv (by decide) ?_
  | ((try first|refine zKx rfl rfl rfl ?_|refine zIv rfl rfl ?_|refine zKw rfl rfl rfl ?_|refine zJy rfl rfl ?_);(refine zIw fun Q_ hQ_=>?_;simp (disch:=first|omega|(simp only [List.length_cons,List.length_nil,List.length_append];omega)) only [bb,bp,zLx,↓reduceIte,reduceCtorEq,Nat.reduceEqDiff,Nat.reduceLT,Nat.reduceLeDiff,Nat.reduceAdd,Nat.reduceMul,Nat.reduceSub,Nat.reduceBEq,Int.reduceToNat,cond_true,cond_false,eq_self,beq_self_eq_true,hl,hl2,g0,g1,g5,zFw wf,zGy wf,zBv wf,zFx wf,zAy wf,zAw,tEvZ12,zIy,zIz,zHv,zHw,zAv wf];first|(refine zCw (Q:=Q_) (fun hp_=>?_) (fun hp_=>?_) <;> first|(exfalso;omega)|(refine hQ_ _ _ ?_;clear hQ_ Q_))|(refine zBw (Q:=Q_) (fun hp_=>?_) (fun hp_=>?_) <;> first|(exfalso;omega)|(refine hQ_ _ _ ?_;clear hQ_ Q_))|(refine hQ_ _ _ ?_;clear hQ_ Q_)))
  | (refine zHy fun K_ hK_=>?_;simp (disch:=omega) only [zFv,zAz,zHx,↓reduceIte,reduceCtorEq,Nat.reduceEqDiff,Nat.reduceLT];refine hK_ _ ?_;clear hK_ K_)))
        refine zPy [.no,.no,.no,.no,.no,.no,.no,.no,.full] (by kernel_rfl) ?_
        (repeat' (first
  | (with_reducible first|refine zJw ?_|refine zGv ?_|refine zFz ?_|refine zEv ?_|refine zFy ?_|refine zJv ?_|refine zHz ?_|refine zCz ?_|refine zDw ?_|refine zCy ?_|refine zCv ?_|refine zEx ?_|refine zDz ?_|refine zCx ?_|refine zBx ?_|refine zEz ?_|refine zEy ?_|refine zBz ?_|refine zBy ?_)
  | refine zDy ?_|refine zEw rfl ?_|refine zJz ?_|refine zJx ?_
  | ((first|refine zGw rfl rfl rfl rfl rfl fun K_ hK_=>?_|refine zGx rfl rfl rfl rfl rfl fun K_ hK_=>?_);simp only [zAz,zDx,zGz,↓reduceIte,reduceCtorEq,Nat.reduceEqDiff,Bool.not_true,Bool.not_false];refine hK_ _ ?_;clear hK_ K_)
  | refine zDv (by decide) ?_
  | ((try first|refine zKx rfl rfl rfl ?_|refine zIv rfl rfl ?_|refine zKw rfl rfl rfl ?_|refine zJy rfl rfl ?_);(refine zIw fun Q_ hQ_=>?_;simp (disch:=first|omega|(simp only [List.length_cons,List.length_nil,List.length_append];omega)) only [bb,bp,zLx,↓reduceIte,reduceCtorEq,Nat.reduceEqDiff,Nat.reduceLT,Nat.reduceLeDiff,Nat.reduceAdd,Nat.reduceMul,Nat.reduceSub,Nat.reduceBEq,Int.reduceToNat,cond_true,cond_false,eq_self,beq_self_eq_true,hl,hl2,g0,g1,g5,hix,hld,hix2,hld2,zFw wf,zGy wf,zBv wf,zFx wf,zAy wf,zAw,tEvZ12,zIy,zIz,zHv,zHw,zAv wf];first|(refine zCw (Q:=Q_) (fun hp_=>?_) (fun hp_=>?_) <;> first|(exfalso;omega)|(refine hQ_ _ _ ?_;clear hQ_ Q_))|(refine zBw (Q:=Q_) (fun hp_=>?_) (fun hp_=>?_) <;> first|(exfalso;omega)|(refine hQ_ _ _ ?_;clear hQ_ Q_))|(refine hQ_ _ _ ?_;clear hQ_ Q_)))
  | (refine zHy fun K_ hK_=>?_;simp (disch:=omega) only [zFv,zAz,zHx,↓reduceIte,reduceCtorEq,Nat.reduceEqDiff,Nat.reduceLT];refine hK_ _ ?_;clear hK_ K_)))
        · exact zKz (i+1) (by omega) ⟨hlt,e1 (by assumption),by simp only [zAz,↓reduceIte,reduceCtorEq,Nat.reduceEqDiff];exact g0,by simp only [zAz,↓reduceIte,reduceCtorEq,Nat.reduceEqDiff];exact g1,by simp only [zAz,↓reduceIte,reduceCtorEq,Nat.reduceEqDiff];rfl,rfl,rfl⟩
        · (refine zKy _ _ rfl (ret1 (by decide)) ?_;simp only [zAz,↓reduceIte,reduceCtorEq,Nat.reduceEqDiff];refine zLy rfl (by omega) ?_)
          exact ⟨by rw [decide_eq_false (e2 (by assumption))],rfl⟩
      · have:xs=ys:=by
          have h1:xs.take i=xs:=List.take_of_length_le (by omega)
          have h2:ys.take i=ys:=List.take_of_length_le (by omega)
          rw [← h1,← h2];exact heq
        rw [decide_eq_true this]
        (repeat' (first
  | (with_reducible first|refine zJw ?_|refine zGv ?_|refine zFz ?_|refine zEv ?_|refine zFy ?_|refine zJv ?_|refine zHz ?_|refine zCz ?_|refine zDw ?_|refine zCy ?_|refine zCv ?_|refine zEx ?_|refine zDz ?_|refine zCx ?_|refine zBx ?_|refine zEz ?_|refine zEy ?_|refine zBz ?_|refine zBy ?_)
  | refine zDy ?_|refine zEw rfl ?_|refine zJz ?_|refine zJx ?_
  | ((first|refine zGw rfl rfl rfl rfl rfl fun K_ hK_=>?_|refine zGx rfl rfl rfl rfl rfl fun K_ hK_=>?_);simp only [zAz,zDx,zGz,↓reduceIte,reduceCtorEq,Nat.reduceEqDiff,Bool.not_true,Bool.not_false];refine hK_ _ ?_;clear hK_ K_)
  | refine zDv (by decide) ?_
  | ((try first|refine zKx rfl rfl rfl ?_|refine zIv rfl rfl ?_|refine zKw rfl rfl rfl ?_|refine zJy rfl rfl ?_);(refine zIw fun Q_ hQ_=>?_;simp (disch:=first|omega|(simp only [List.length_cons,List.length_nil,List.length_append];omega)) only [bb,bp,zLx,↓reduceIte,reduceCtorEq,Nat.reduceEqDiff,Nat.reduceLT,Nat.reduceLeDiff,Nat.reduceAdd,Nat.reduceMul,Nat.reduceSub,Nat.reduceBEq,Int.reduceToNat,cond_true,cond_false,eq_self,beq_self_eq_true,hl,hl2,g0,g1,g5,zFw wf,zGy wf,zBv wf,zFx wf,zAy wf,zAw,tEvZ12,zIy,zIz,zHv,zHw,zAv wf];first|(refine zCw (Q:=Q_) (fun hp_=>?_) (fun hp_=>?_) <;> first|(exfalso;omega)|(refine hQ_ _ _ ?_;clear hQ_ Q_))|(refine zBw (Q:=Q_) (fun hp_=>?_) (fun hp_=>?_) <;> first|(exfalso;omega)|(refine hQ_ _ _ ?_;clear hQ_ Q_))|(refine hQ_ _ _ ?_;clear hQ_ Q_)))
  | (refine zHy fun K_ hK_=>?_;simp (disch:=omega) only [zFv,zAz,zHx,↓reduceIte,reduceCtorEq,Nat.reduceEqDiff,Nat.reduceLT];refine hK_ _ ?_;clear hK_ K_)))
        (refine zKy _ _ rfl (ret1 (by decide)) ?_;simp only [zAz,↓reduceIte,reduceCtorEq,Nat.reduceEqDiff];refine zLy rfl (by omega) ?_)
        exact ⟨rfl,rfl⟩
    · exact ⟨by omega,by rw [List.take_zero,List.take_zero],rfl,rfl,rfl,rfl,rfl⟩
  · have hd : ¬ ((xs.length:Int)=(ys.length:Int)):=by omega
    have : ¬ xs=ys:=fun h=>he (by rw [h])
    rw [decide_eq_false this]
    (repeat' (first
  | (with_reducible first|refine zJw ?_|refine zGv ?_|refine zFz ?_|refine zEv ?_|refine zFy ?_|refine zJv ?_|refine zHz ?_|refine zCz ?_|refine zDw ?_|refine zCy ?_|refine zCv ?_|refine zEx ?_|refine zDz ?_|refine zCx ?_|refine zBx ?_|refine zEz ?_|refine zEy ?_|refine zBz ?_|refine zBy ?_)
  | refine zDy ?_|refine zEw rfl ?_|refine zJz ?_|refine zJx ?_
  | ((first|refine zGw rfl rfl rfl rfl rfl fun K_ hK_=>?_|refine zGx rfl rfl rfl rfl rfl fun K_ hK_=>?_);simp only [zAz,zDx,zGz,↓reduceIte,reduceCtorEq,Nat.reduceEqDiff,Bool.not_true,Bool.not_false];refine hK_ _ ?_;clear hK_ K_)
  | refine zDv (by decide) ?_
  | ((try first|refine zKx rfl rfl rfl ?_|refine zIv rfl rfl ?_|refine zKw rfl rfl rfl ?_|refine zJy rfl rfl ?_);(refine zIw fun Q_ hQ_=>?_;simp (disch:=first|omega|(simp only [List.length_cons,List.length_nil,List.length_append];omega)) only [bb,bp,zLx,↓reduceIte,reduceCtorEq,Nat.reduceEqDiff,Nat.reduceLT,Nat.reduceLeDiff,Nat.reduceAdd,Nat.reduceMul,Nat.reduceSub,Nat.reduceBEq,Int.reduceToNat,cond_true,cond_false,eq_self,beq_self_eq_true,hl,hl2,zFw wf,zGy wf,zBv wf,zFx wf,zAy wf,zAw,tEvZ12,zIy,zIz,zHv,zHw,zAv wf];first|(refine zCw (Q:=Q_) (fun hp_=>?_) (fun hp_=>?_) <;> first|(exfalso;omega)|(refine hQ_ _ _ ?_;clear hQ_ Q_))|(refine zBw (Q:=Q_) (fun hp_=>?_) (fun hp_=>?_) <;> first|(exfalso;omega)|(refine hQ_ _ _ ?_;clear hQ_ Q_))|(refine hQ_ _ _ ?_;clear hQ_ Q_)))
  | (refine zHy fun K_ hK_=>?_;simp (disch:=omega) only [zFv,zAz,zHx,↓reduceIte,reduceCtorEq,Nat.reduceEqDiff,Nat.reduceLT];refine hK_ _ ?_;clear hK_ K_)))
    (refine zKy _ _ rfl (ret1 (by decide)) ?_;simp only [zAz,↓reduceIte,reduceCtorEq,Nat.reduceEqDiff];refine zLy rfl (by omega) ?_)
    exact ⟨rfl,rfl⟩
end Go.Proofs.Ytmincoafjnnkpaa
end

section
namespace Go.Ev
theorem px_xor (f g:Nat→Bool) : ∀ n,px n (fun j=>f j ^^ g j)=(px n f ^^ px n g)
  | 0=>rfl
  | n+1=>by
    show (px n (fun j=>f j ^^ g j) ^^ (f n ^^ g n))=((px n f ^^ f n) ^^ (px n g ^^ g n))
    rw [px_xor f g n]
    cases px n f <;> cases px n g <;> cases f n <;> cases g n <;> rfl
theorem px_one {f:Nat→Bool} {n k:Nat} (hk:k<n) (h : ∀ j,j<n→j≠k→f j=false):px n f=f k:=by
  induction n with
  | zero=>omega
  | succ n ih=>
    show (px n f ^^ f n)=f k
    by_cases e:k=n
    · subst e
      rw [px_false fun i hi=>h i (by omega) (by omega),Bool.false_xor]
    · rw [ih (by omega) fun j hj hne=>h j (by omega) hne,h n (by omega) (by omega),Bool.xor_false]
theorem px_shift (g:Nat) (f:Nat→Bool) : ∀ n,px (g+n) (fun j=>decide (g≤j) && f (j - g))=px n f
  | 0=>by
    rw [Nat.add_zero]
    exact px_false fun i hi=>by simp;omega
  | n+1=>by
    show (px (g+n) (fun j=>decide (g≤j) && f (j - g)) ^^ (decide (g≤g+n) && f (g+n - g)))=(px n f ^^ f n)
    rw [px_shift g f n,Nat.add_sub_cancel_left]
    simp
theorem bit_high {T L j:Nat} (h:T<2 ^ L) (hj:L≤j):T.testBit j=false:=
  Nat.testBit_lt_two_pow (Nat.lt_of_lt_of_le h (Nat.pow_le_pow_right (by decide) hj))
theorem pred_more {T L L':Nat} {s:Nat→Bool} {i:Nat} (hT:T<2 ^ L) (hL:L≤L'):pred T L' s i=pred T L s i:=by
  unfold pred
  exact px_more hL fun j h1 _=>by rw [bit_high hT h1,Bool.false_and]
structure Wrong (T L:Nat) (s:Nat→Bool) (p:Nat):Prop where
  le:L≤p
  makes:Makes T L s p
  bad:s p≠pred T L s p
def mend (T g T2:Nat):Nat:=T ^^^ ((1 <<< (g - 1)) % 2 ^ 128) ^^^ ((T2 <<< g) % 2 ^ 128)
theorem one_bit (g j:Nat):(1 <<< g).testBit j=decide (j=g):=by
  rw [Nat.shiftLeft_eq,Nat.one_mul,Nat.testBit_two_pow]
  simp only [decide_eq_decide]
  omega
theorem mend_bit {T g T2 j:Nat} (hg:1≤g) (hj:j<128):(mend T g T2).testBit j=((T.testBit j ^^ decide (j=g - 1)) ^^ (decide (g≤j) && T2.testBit (j - g))):=by
  unfold mend
  rw [Nat.testBit_xor,Nat.testBit_xor,Nat.testBit_mod_two_pow,Nat.testBit_mod_two_pow,one_bit,Nat.testBit_shiftLeft]
  simp [hj]
theorem mended {T L p T2 L2 q:Nat} {s:Nat→Bool} (hT:T<2 ^ L) (w:Wrong T L s p) (hT2:T2<2 ^ L2) (w2:Wrong T2 L2 s q) (hqp:q<p) (hp:max L (L2+(p - q))≤128):Makes (mend T (p - q) T2) (max L (L2+(p - q))) s (p+1):=by
  intro i h1 h2
  generalize hg:p - q=g at *
  generalize hL:max L (L2+g)=L' at *
  have hgi:1≤g∧g≤i:=by omega
  have e:pred (mend T g T2) L' s i=((pred T L s i ^^ s (i - g)) ^^ pred T2 L2 s (i - g)):=by
    have e1:pred (mend T g T2) L' s i=px L' (fun j=>((T.testBit j && s (i - 1 - j)) ^^ (decide (j=g - 1) && s (i - 1 - j))) ^^ (decide (g≤j) && (T2.testBit (j - g) && s (i - g - 1 - (j - g))))):=by
      refine xXv fun j hj=>?_
      rw [mend_bit hgi.1 (by omega)]
      by_cases hgj:g≤j
      · rw [show i - g - 1 - (j - g)=i - 1 - j by omega]
        cases T.testBit j <;> cases decide (j=g - 1) <;> cases decide (g≤j) <;> cases T2.testBit (j - g) <;> cases s (i - 1 - j) <;> rfl
      · rw [decide_eq_false hgj]
        cases T.testBit j <;> cases decide (j=g - 1) <;> cases s (i - 1 - j) <;> rfl
    rw [e1,px_xor,px_xor]
    congr 1
    · congr 1
      · exact pred_more hT (by omega)
      · rw [px_one (k:=g - 1) (by omega) fun j hj hne=>by simp [hne],decide_eq_true rfl,Bool.true_and,show i - 1 - (g - 1)=i - g by omega]
    · rw [show L'=g+(L' - g) by omega]
      rw [px_shift g (fun k=>T2.testBit k && s (i - g - 1 - k))]
      exact pred_more hT2 (by omega)
  rw [e]
  by_cases hip:i=p
  · subst hip
    have hq:i - g=q:=by omega
    rw [hq]
    have b1:=w.bad
    have b2:=w2.bad
    revert b1 b2
    cases s i <;> cases pred T L s i <;> cases s q <;> cases pred T2 L2 s q <;> simp
  · rw [← w.makes i (by omega) (by omega),← w2.makes (i - g) (by omega) (by omega)]
    cases s i <;> cases s (i - g) <;> rfl
structure Cpx (s:Nat→Bool) (n L:Nat):Prop where
  some : ∃ T,T<2 ^ L∧Makes T L s n
  least : ∀ T' L',Makes T' L' s n→L≤L'
theorem Makes.less {T L m n:Nat} {s:Nat→Bool} (h:Makes T L s n) (hm:m≤n):Makes T L s m:=fun i h1 h2=>h i h1 (by omega)
end Go.Ev
end

section
namespace Go.Ev
def natOf (L:Nat) (f:Nat→Bool):Nat:=bN ((List.range L).map f)
structure Att where
  (T L:Nat) (at_:Int)
def Att.bound (a:Att):Int:=a.at_+1 - (a.L:Int)
def best1 (m:Att):List Att→Att
  | []=>m
  | x :: l=>best1 (if m.bound<x.bound then x else m) l
def bestA :List Att→Att
  | []=>⟨0,0,0⟩
  | m :: l=>best1 m l
theorem best1_snoc (x:Att) : ∀ (l:List Att) (m:Att),best1 m (l++[x])=if (best1 m l).bound<x.bound then x else best1 m l
  | [],m=>rfl
  | y :: l,m=>by
    show best1 (if m.bound<y.bound then y else m) (l++[x])=_
    rw [best1_snoc x l];rfl
def OkBy (s:Nat→Bool) (p:Nat) (a:Att):Prop:=a=⟨0,0,-1⟩∨(a.T<2 ^ a.L ∧ ∃ q:Nat,a.at_=(q:Int)∧q<p∧Wrong a.T a.L s q)
inductive Chain (s:Nat→Bool):List Att→Nat→Nat→Nat→List Nat→Prop
  | nil:Chain s [⟨0,0,-1⟩] 0 0 0 []
  | snoc {l:List Att} {T L p q:Nat} {prof:List Nat} : Chain s l T L p prof→p≤q→Wrong T L s q→q<128 →
      Chain s (l++[⟨T,L,(q:Int)⟩]) (mend T ((q:Int) - (bestA l).at_).toNat (bestA l).T) (max L ((bestA l).L+((q:Int) - (bestA l).at_).toNat)) (q+1) (prof++List.replicate (q+1 - p) L)
structure Facts (s:Nat→Bool) (l:List Att) (T L p:Nat) (prof:List Nat):Prop where
  ne:l≠[]
  lt:T<2 ^ L
  le:L≤p
  p_le:p≤128
  cx:Cpx s p L
  makes:Makes T L s p
  best:(bestA l).bound=(L:Int)
  by_:OkBy s p (bestA l)
  len:prof.length=p
  prof_ : ∀ k,k<p → ∃ Lk:Nat,prof[k]? = some Lk∧Cpx s k Lk
  mono : ∀ (k Lk:Nat),prof[k]? = some Lk→Lk≤L
end Go.Ev
end

section
namespace Go.Proofs.Ytmincoafjnnkpaa
open Go.Ev
set_option maxRecDepth 100000
set_option linter.unusedSimpArgs false
set_option linter.unusedVariables false
set_option maxHeartbeats 2000000
theorem tEvZ14 :type_of% (And.intro (And.intro (And.intro (And.intro (And.intro (And.intro (And.intro (@ySz) (@yRv)) (And.intro (@yRw) (@yRx))) (And.intro (And.intro (@yRy) (@yRz)) (And.intro (@ia_2) (And.intro (@ia_3) (@ia_4))))) (And.intro (And.intro (And.intro (@ia_5) (@yQv)) (And.intro (@yQw) (@yQx))) (And.intro (And.intro (@yQy) (@yQz)) (And.intro (@yPv) (And.intro (@zSx) (@yPw)))))) (And.intro (And.intro (And.intro (And.intro (@yPx) (@yPy)) (And.intro (@yPz) (@yOv))) (And.intro (And.intro (@yOw) (@yOx)) (And.intro (@yOy) (And.intro (@yOz) (@sz_2))))) (And.intro (And.intro (And.intro (@sz_3) (@sz_4)) (And.intro (@sz_5) (And.intro (@zZv) (@zZw)))) (And.intro (And.intro (@zZx) (@zZy)) (And.intro (@zZz) (And.intro (@zYv) (@zSz))))))) (And.intro (And.intro (And.intro (And.intro (And.intro (@zYw) (@zYx)) (And.intro (@zYy) (@zRy))) (And.intro (And.intro (@zYz) (@zXv)) (And.intro (@zXw) (And.intro (@zXx) (@zXy))))) (And.intro (And.intro (And.intro (@ze_2) (@ze_3)) (And.intro (@ze_4) (And.intro (@ze_5) (@zXz)))) (And.intro (And.intro (@zWv) (@zWw)) (And.intro (@zWx) (And.intro (@zWy) (@zWz)))))) (And.intro (And.intro (And.intro (And.intro (@zVv) (@zVw)) (And.intro (@zVx) (@zVy))) (And.intro (And.intro (@zVz) (@zUv)) (And.intro (@zUw) (And.intro (@zUx) (@zUy))))) (And.intro (And.intro (And.intro (@zNv) (@zNw)) (And.intro (@zNx) (And.intro (@zNy) (@zNz)))) (And.intro (And.intro (@zMv) (@zMw)) (And.intro (@zMx) (And.intro (@zMy) (@yNx)))))))) (And.intro (And.intro (And.intro (And.intro (And.intro (And.intro (@yNy) (@yNz)) (And.intro (@yMv) (@yMw))) (And.intro (And.intro (@yMx) (@yMy)) (And.intro (@yMz) (And.intro (@yLv) (@yLw))))) (And.intro (And.intro (And.intro (@yLx) (@yLy)) (And.intro (@yLz) (@yKv))) (And.intro (And.intro (@yKw) (@yKx)) (And.intro (@yKy) (And.intro (@yKz) (@yJv)))))) (And.intro (And.intro (And.intro (And.intro (@yJw) (@yJx)) (And.intro (@yJy) (@yJz))) (And.intro (And.intro (@yIv) (@yIw)) (And.intro (@yIx) (And.intro (@yIy) (@yIz))))) (And.intro (And.intro (And.intro (@yHv) (@yHw)) (And.intro (@yHx) (And.intro (@yHy) (@yHz)))) (And.intro (And.intro (@yGv) (@yGw)) (And.intro (@yGx) (And.intro (@yGy) (@yGz))))))) (And.intro (And.intro (And.intro (And.intro (And.intro (@yFv) (@yFw)) (And.intro (@yFx) (@yFy))) (And.intro (And.intro (@yFz) (@yEv)) (And.intro (@yEw) (And.intro (@yEx) (@yEy))))) (And.intro (And.intro (And.intro (@yEz) (@yDv)) (And.intro (@yDw) (And.intro (@yDx) (@yDy)))) (And.intro (And.intro (@zSw) (@yDz)) (And.intro (@yCv) (And.intro (@yCw) (@yCx)))))) (And.intro (And.intro (And.intro (And.intro (@yCy) (@yCz)) (And.intro (@yBv) (@yBw))) (And.intro (And.intro (@yBx) (@yBy)) (And.intro (@yBz) (And.intro (@yAv) (@yAw))))) (And.intro (And.intro (And.intro (@yAx) (@yAy)) (And.intro (@zPw) (And.intro (@zTx) (@zTy)))) (And.intro (And.intro (@zSy) (@zTz)) (And.intro (@zSv) (And.intro (@yNv) (@yNw))))))))):=And.intro (And.intro (And.intro (And.intro (And.intro (And.intro (And.intro (@ySz) (@yRv)) (And.intro (@yRw) (@yRx))) (And.intro (And.intro (@yRy) (@yRz)) (And.intro (@ia_2) (And.intro (@ia_3) (@ia_4))))) (And.intro (And.intro (And.intro (@ia_5) (@yQv)) (And.intro (@yQw) (@yQx))) (And.intro (And.intro (@yQy) (@yQz)) (And.intro (@yPv) (And.intro (@zSx) (@yPw)))))) (And.intro (And.intro (And.intro (And.intro (@yPx) (@yPy)) (And.intro (@yPz) (@yOv))) (And.intro (And.intro (@yOw) (@yOx)) (And.intro (@yOy) (And.intro (@yOz) (@sz_2))))) (And.intro (And.intro (And.intro (@sz_3) (@sz_4)) (And.intro (@sz_5) (And.intro (@zZv) (@zZw)))) (And.intro (And.intro (@zZx) (@zZy)) (And.intro (@zZz) (And.intro (@zYv) (@zSz))))))) (And.intro (And.intro (And.intro (And.intro (And.intro (@zYw) (@zYx)) (And.intro (@zYy) (@zRy))) (And.intro (And.intro (@zYz) (@zXv)) (And.intro (@zXw) (And.intro (@zXx) (@zXy))))) (And.intro (And.intro (And.intro (@ze_2) (@ze_3)) (And.intro (@ze_4) (And.intro (@ze_5) (@zXz)))) (And.intro (And.intro (@zWv) (@zWw)) (And.intro (@zWx) (And.intro (@zWy) (@zWz)))))) (And.intro (And.intro (And.intro (And.intro (@zVv) (@zVw)) (And.intro (@zVx) (@zVy))) (And.intro (And.intro (@zVz) (@zUv)) (And.intro (@zUw) (And.intro (@zUx) (@zUy))))) (And.intro (And.intro (And.intro (@zNv) (@zNw)) (And.intro (@zNx) (And.intro (@zNy) (@zNz)))) (And.intro (And.intro (@zMv) (@zMw)) (And.intro (@zMx) (And.intro (@zMy) (@yNx)))))))) (And.intro (And.intro (And.intro (And.intro (And.intro (And.intro (@yNy) (@yNz)) (And.intro (@yMv) (@yMw))) (And.intro (And.intro (@yMx) (@yMy)) (And.intro (@yMz) (And.intro (@yLv) (@yLw))))) (And.intro (And.intro (And.intro (@yLx) (@yLy)) (And.intro (@yLz) (@yKv))) (And.intro (And.intro (@yKw) (@yKx)) (And.intro (@yKy) (And.intro (@yKz) (@yJv)))))) (And.intro (And.intro (And.intro (And.intro (@yJw) (@yJx)) (And.intro (@yJy) (@yJz))) (And.intro (And.intro (@yIv) (@yIw)) (And.intro (@yIx) (And.intro (@yIy) (@yIz))))) (And.intro (And.intro (And.intro (@yHv) (@yHw)) (And.intro (@yHx) (And.intro (@yHy) (@yHz)))) (And.intro (And.intro (@yGv) (@yGw)) (And.intro (@yGx) (And.intro (@yGy) (@yGz))))))) (And.intro (And.intro (And.intro (And.intro (And.intro (@yFv) (@yFw)) (And.intro (@yFx) (@yFy))) (And.intro (And.intro (@yFz) (@yEv)) (And.intro (@yEw) (And.intro (@yEx) (@yEy))))) (And.intro (And.intro (And.intro (@yEz) (@yDv)) (And.intro (@yDw) (And.intro (@yDx) (@yDy)))) (And.intro (And.intro (@zSw) (@yDz)) (And.intro (@yCv) (And.intro (@yCw) (@yCx)))))) (And.intro (And.intro (And.intro (And.intro (@yCy) (@yCz)) (And.intro (@yBv) (@yBw))) (And.intro (And.intro (@yBx) (@yBy)) (And.intro (@yBz) (And.intro (@yAv) (@yAw))))) (And.intro (And.intro (And.intro (@yAx) (@yAy)) (And.intro (@zPw) (And.intro (@zTx) (@zTy)))) (And.intro (And.intro (@zSy) (@zTz)) (And.intro (@zSv) (And.intro (@yNv) (@yNw))))))))
def attC (a:Att):List AV:=[uu (a.T % 2 ^ 64),uu (a.T >>> 64),ii (a.L:Int),ii a.at_]
theorem xDv (a:Att):(attC a).length=4:=rfl
theorem xYz {α : Type} {f : α → List AV} {m:Nat} (hf : ∀ a,(f a).length=m) : ∀ l:List α,(l.flatMap f).length=l.length * m
  | []=>by simp
  | a :: l=>by rw [List.flatMap_cons,List.length_append,hf,xYz hf l,List.length_cons,Nat.succ_mul];omega
theorem flat_at {α : Type} {f : α → List AV} {m:Nat} (hf : ∀ a,(f a).length=m) : ∀ {l:List α} {i:Nat} (hi:i<l.length),((l.flatMap f).drop (i * m)).take m=f l[i]
  | [],_,hi=>absurd hi (Nat.not_lt_zero _)
  | a :: l,0,_=>by
    rw [Nat.zero_mul,List.drop_zero,List.flatMap_cons,List.take_append_of_le_length (by rw [hf];exact Nat.le_refl _),List.take_of_length_le (by rw [hf];exact Nat.le_refl _)];rfl
  | a :: l,i+1,hi=>by
    rw [List.flatMap_cons,show (i+1) * m=m+i * m by rw [Nat.succ_mul];omega,← List.drop_drop,List.drop_left' (hf a)]
    exact flat_at hf (by simpa using hi)
theorem bound (a:Att) (h:H) (wf:Wf h) (hat : -1≤a.at_∧a.at_≤128) (hL:a.L≤128):(om Try.prog KK).call (.fn 52 [.agg (attC a)]) h = .ok (ii a.bound) h:=by
  unfold attC
  refine ySv (zLv (fn:=Try.f52) Try.func52 rfl rfl rfl rfl rfl ?_)
  simp only [zLx]
  (repeat' (first
  | (with_reducible first|refine zJw ?_|refine zGv ?_|refine zFz ?_|refine zEv ?_|refine zFy ?_|refine zJv ?_|refine zHz ?_|refine zCz ?_|refine zDw ?_|refine zCy ?_|refine zCv ?_|refine zEx ?_|refine zDz ?_|refine zCx ?_|refine zBx ?_|refine zEz ?_|refine zEy ?_|refine zBz ?_|refine zBy ?_)
  | refine zDy ?_|refine zEw rfl ?_|refine zJz ?_|refine zJx ?_
  | ((first|refine zGw rfl rfl rfl rfl rfl fun K_ hK_=>?_|refine zGx rfl rfl rfl rfl rfl fun K_ hK_=>?_);simp only [zAz,zDx,zGz,↓reduceIte,reduceCtorEq,Nat.reduceEqDiff,Bool.not_true,Bool.not_false];refine hK_ _ ?_;clear hK_ K_)
  | refine zDv (by decide) ?_
  | ((try first|refine zKx rfl rfl rfl ?_|refine zIv rfl rfl ?_|refine zKw rfl rfl rfl ?_|refine zJy rfl rfl ?_);(refine zIw fun Q_ hQ_=>?_;simp (disch:=first|omega|(simp only [List.length_cons,List.length_nil,List.length_append];omega)) only [bb,bp,zLx,↓reduceIte,reduceCtorEq,Nat.reduceEqDiff,Nat.reduceLT,Nat.reduceLeDiff,Nat.reduceAdd,Nat.reduceMul,Nat.reduceSub,Nat.reduceBEq,Int.reduceToNat,cond_true,cond_false,eq_self,beq_self_eq_true,zFw wf,zGy wf,zBv wf,zFx wf,zAy wf,zAw,tEvZ14,zIy,zIz,zHv,zHw,zAv wf];first|(refine zCw (Q:=Q_) (fun hp_=>?_) (fun hp_=>?_) <;> first|(exfalso;omega)|(refine hQ_ _ _ ?_;clear hQ_ Q_))|(refine zBw (Q:=Q_) (fun hp_=>?_) (fun hp_=>?_) <;> first|(exfalso;omega)|(refine hQ_ _ _ ?_;clear hQ_ Q_))|(refine hQ_ _ _ ?_;clear hQ_ Q_)))
  | (refine zHy fun K_ hK_=>?_;simp (disch:=omega) only [zFv,zAz,zHx,↓reduceIte,reduceCtorEq,Nat.reduceEqDiff,Nat.reduceLT];refine hK_ _ ?_;clear hK_ K_)))
  (refine zKy _ _ rfl (ret1 (by decide)) ?_;simp only [zAz,↓reduceIte,reduceCtorEq,Nat.reduceEqDiff];refine zLy rfl (by omega) ?_)
  exact ⟨rfl,rfl⟩
theorem strong1 (a:Att) (h:H) (wf:Wf h) (hat : -1≤a.at_∧a.at_≤128) (hL:a.L≤128):(om Try.prog KK).call (.fn 74 [.agg (attC a)]) h = .ok (ii a.bound) h:=by
  have c1 : ∀ (l:List AO) (w:Nat),w≤h.clock+l.length→(om Try.prog KK).call (.fn 52 [.agg [uu (a.T % 2 ^ 64),uu (a.T >>> 64),ii (a.L:Int),ii a.at_]]) (X h l w) = .ok (ii a.bound) (X h l w):=fun l w hw=>bound a _ (wf.X hw) hat hL
  unfold attC
  refine ySv (zLv (fn:=Try.f74) Try.func74 rfl rfl rfl rfl rfl ?_)
  simp only [zLx]
  (repeat' (first
  | (with_reducible first|refine zJw ?_|refine zGv ?_|refine zFz ?_|refine zEv ?_|refine zFy ?_|refine zJv ?_|refine zHz ?_|refine zCz ?_|refine zDw ?_|refine zCy ?_|refine zCv ?_|refine zEx ?_|refine zDz ?_|refine zCx ?_|refine zBx ?_|refine zEz ?_|refine zEy ?_|refine zBz ?_|refine zBy ?_)
  | refine zDy ?_|refine zEw rfl ?_|refine zJz ?_|refine zJx ?_
  | ((first|refine zGw rfl rfl rfl rfl rfl fun K_ hK_=>?_|refine zGx rfl rfl rfl rfl rfl fun K_ hK_=>?_);simp only [zAz,zDx,zGz,↓reduceIte,reduceCtorEq,Nat.reduceEqDiff,Bool.not_true,Bool.not_false];refine hK_ _ ?_;clear hK_ K_)
  | refine zDv (by decide) ?_
  | ((try first|refine zKx rfl rfl rfl ?_|refine zIv rfl rfl ?_|refine zKw rfl rfl rfl ?_|refine zJy rfl rfl ?_);(refine zIw fun Q_ hQ_=>?_;simp (disch:=first|omega|(simp only [List.length_cons,List.length_nil,List.length_append];omega)) only [bb,bp,zLx,↓reduceIte,reduceCtorEq,Nat.reduceEqDiff,Nat.reduceLT,Nat.reduceLeDiff,Nat.reduceAdd,Nat.reduceMul,Nat.reduceSub,Nat.reduceBEq,Int.reduceToNat,cond_true,cond_false,eq_self,beq_self_eq_true,zFw wf,zGy wf,zBv wf,zFx wf,zAy wf,zAw,tEvZ14,zIy,zIz,zHv,zHw,zAv wf];first|(refine zCw (Q:=Q_) (fun hp_=>?_) (fun hp_=>?_) <;> first|(exfalso;omega)|(refine hQ_ _ _ ?_;clear hQ_ Q_))|(refine zBw (Q:=Q_) (fun hp_=>?_) (fun hp_=>?_) <;> first|(exfalso;omega)|(refine hQ_ _ _ ?_;clear hQ_ Q_))|(refine hQ_ _ _ ?_;clear hQ_ Q_)|(refine zQv (c1 _ _ (by first|omega|(simp only [List.length_append,List.length_cons,List.length_nil];omega))) ?_;refine hQ_ _ _ ?_;clear hQ_ Q_)))
  | (refine zHy fun K_ hK_=>?_;simp (disch:=omega) only [zFv,zAz,zHx,↓reduceIte,reduceCtorEq,Nat.reduceEqDiff,Nat.reduceLT];refine hK_ _ ?_;clear hK_ K_)))
  (refine zKy _ _ rfl (ret1 (by decide)) ?_;simp only [zAz,↓reduceIte,reduceCtorEq,Nat.reduceEqDiff];refine zLy rfl (by omega) ?_)
  exact ⟨rfl,rfl⟩
end Go.Proofs.Ytmincoafjnnkpaa
end

section
namespace Go.Proofs.Ytmincoafjnnkpaa
open Go.Ev
set_option maxRecDepth 100000
set_option linter.unusedSimpArgs false
set_option linter.unusedVariables false
set_option maxHeartbeats 2000000
theorem tEvZ15 :type_of% (And.intro (And.intro (And.intro (And.intro (And.intro (And.intro (And.intro (@ySz) (@yRv)) (And.intro (@yRw) (@yRx))) (And.intro (And.intro (@yRy) (@yRz)) (And.intro (@ia_2) (And.intro (@ia_3) (@ia_4))))) (And.intro (And.intro (And.intro (@ia_5) (@yQv)) (And.intro (@yQw) (@yQx))) (And.intro (And.intro (@yQy) (@yQz)) (And.intro (@yPv) (And.intro (@zSx) (@yPw)))))) (And.intro (And.intro (And.intro (And.intro (@yPx) (@yPy)) (And.intro (@yPz) (@yOv))) (And.intro (And.intro (@yOw) (@yOx)) (And.intro (@yOy) (And.intro (@yOz) (@sz_2))))) (And.intro (And.intro (And.intro (@sz_3) (@sz_4)) (And.intro (@sz_5) (And.intro (@zZv) (@zZw)))) (And.intro (And.intro (@zZx) (@zZy)) (And.intro (@zZz) (And.intro (@zYv) (@zSz))))))) (And.intro (And.intro (And.intro (And.intro (And.intro (@zYw) (@zYx)) (And.intro (@zYy) (@zRy))) (And.intro (And.intro (@zYz) (@zXv)) (And.intro (@zXw) (And.intro (@zXx) (@zXy))))) (And.intro (And.intro (And.intro (@ze_2) (@ze_3)) (And.intro (@ze_4) (And.intro (@ze_5) (@zXz)))) (And.intro (And.intro (@zWv) (@zWw)) (And.intro (@zWx) (And.intro (@zWy) (@zWz)))))) (And.intro (And.intro (And.intro (And.intro (@zVv) (@zVw)) (And.intro (@zVx) (@zVy))) (And.intro (And.intro (@zVz) (@zUv)) (And.intro (@zUw) (And.intro (@zUx) (@zUy))))) (And.intro (And.intro (And.intro (@zNv) (@zNw)) (And.intro (@zNx) (And.intro (@zNy) (@zNz)))) (And.intro (And.intro (@zMv) (@zMw)) (And.intro (@zMx) (And.intro (@zMy) (@yNx)))))))) (And.intro (And.intro (And.intro (And.intro (And.intro (And.intro (@yNy) (@yNz)) (And.intro (@yMv) (@yMw))) (And.intro (And.intro (@yMx) (@yMy)) (And.intro (@yMz) (And.intro (@yLv) (@yLw))))) (And.intro (And.intro (And.intro (@yLx) (@yLy)) (And.intro (@yLz) (@yKv))) (And.intro (And.intro (@yKw) (@yKx)) (And.intro (@yKy) (And.intro (@yKz) (@yJv)))))) (And.intro (And.intro (And.intro (And.intro (@yJw) (@yJx)) (And.intro (@yJy) (@yJz))) (And.intro (And.intro (@yIv) (@yIw)) (And.intro (@yIx) (And.intro (@yIy) (@yIz))))) (And.intro (And.intro (And.intro (@yHv) (@yHw)) (And.intro (@yHx) (And.intro (@yHy) (@yHz)))) (And.intro (And.intro (@yGv) (@yGw)) (And.intro (@yGx) (And.intro (@yGy) (@yGz))))))) (And.intro (And.intro (And.intro (And.intro (And.intro (@yFv) (@yFw)) (And.intro (@yFx) (@yFy))) (And.intro (And.intro (@yFz) (@yEv)) (And.intro (@yEw) (And.intro (@yEx) (@yEy))))) (And.intro (And.intro (And.intro (@yEz) (@yDv)) (And.intro (@yDw) (And.intro (@yDx) (@yDy)))) (And.intro (And.intro (@zSw) (@yDz)) (And.intro (@yCv) (And.intro (@yCw) (@yCx)))))) (And.intro (And.intro (And.intro (And.intro (@yCy) (@yCz)) (And.intro (@yBv) (@yBw))) (And.intro (And.intro (@yBx) (@yBy)) (And.intro (@yBz) (And.intro (@yAv) (@yAw))))) (And.intro (And.intro (And.intro (@yAx) (@yAy)) (And.intro (@zPw) (And.intro (@zTx) (@zTy)))) (And.intro (And.intro (@zSy) (@zTz)) (And.intro (@zSv) (And.intro (@yNv) (@yNw))))))))):=And.intro (And.intro (And.intro (And.intro (And.intro (And.intro (And.intro (@ySz) (@yRv)) (And.intro (@yRw) (@yRx))) (And.intro (And.intro (@yRy) (@yRz)) (And.intro (@ia_2) (And.intro (@ia_3) (@ia_4))))) (And.intro (And.intro (And.intro (@ia_5) (@yQv)) (And.intro (@yQw) (@yQx))) (And.intro (And.intro (@yQy) (@yQz)) (And.intro (@yPv) (And.intro (@zSx) (@yPw)))))) (And.intro (And.intro (And.intro (And.intro (@yPx) (@yPy)) (And.intro (@yPz) (@yOv))) (And.intro (And.intro (@yOw) (@yOx)) (And.intro (@yOy) (And.intro (@yOz) (@sz_2))))) (And.intro (And.intro (And.intro (@sz_3) (@sz_4)) (And.intro (@sz_5) (And.intro (@zZv) (@zZw)))) (And.intro (And.intro (@zZx) (@zZy)) (And.intro (@zZz) (And.intro (@zYv) (@zSz))))))) (And.intro (And.intro (And.intro (And.intro (And.intro (@zYw) (@zYx)) (And.intro (@zYy) (@zRy))) (And.intro (And.intro (@zYz) (@zXv)) (And.intro (@zXw) (And.intro (@zXx) (@zXy))))) (And.intro (And.intro (And.intro (@ze_2) (@ze_3)) (And.intro (@ze_4) (And.intro (@ze_5) (@zXz)))) (And.intro (And.intro (@zWv) (@zWw)) (And.intro (@zWx) (And.intro (@zWy) (@zWz)))))) (And.intro (And.intro (And.intro (And.intro (@zVv) (@zVw)) (And.intro (@zVx) (@zVy))) (And.intro (And.intro (@zVz) (@zUv)) (And.intro (@zUw) (And.intro (@zUx) (@zUy))))) (And.intro (And.intro (And.intro (@zNv) (@zNw)) (And.intro (@zNx) (And.intro (@zNy) (@zNz)))) (And.intro (And.intro (@zMv) (@zMw)) (And.intro (@zMx) (And.intro (@zMy) (@yNx)))))))) (And.intro (And.intro (And.intro (And.intro (And.intro (And.intro (@yNy) (@yNz)) (And.intro (@yMv) (@yMw))) (And.intro (And.intro (@yMx) (@yMy)) (And.intro (@yMz) (And.intro (@yLv) (@yLw))))) (And.intro (And.intro (And.intro (@yLx) (@yLy)) (And.intro (@yLz) (@yKv))) (And.intro (And.intro (@yKw) (@yKx)) (And.intro (@yKy) (And.intro (@yKz) (@yJv)))))) (And.intro (And.intro (And.intro (And.intro (@yJw) (@yJx)) (And.intro (@yJy) (@yJz))) (And.intro (And.intro (@yIv) (@yIw)) (And.intro (@yIx) (And.intro (@yIy) (@yIz))))) (And.intro (And.intro (And.intro (@yHv) (@yHw)) (And.intro (@yHx) (And.intro (@yHy) (@yHz)))) (And.intro (And.intro (@yGv) (@yGw)) (And.intro (@yGx) (And.intro (@yGy) (@yGz))))))) (And.intro (And.intro (And.intro (And.intro (And.intro (@yFv) (@yFw)) (And.intro (@yFx) (@yFy))) (And.intro (And.intro (@yFz) (@yEv)) (And.intro (@yEw) (And.intro (@yEx) (@yEy))))) (And.intro (And.intro (And.intro (@yEz) (@yDv)) (And.intro (@yDw) (And.intro (@yDx) (@yDy)))) (And.intro (And.intro (@zSw) (@yDz)) (And.intro (@yCv) (And.intro (@yCw) (@yCx)))))) (And.intro (And.intro (And.intro (And.intro (@yCy) (@yCz)) (And.intro (@yBv) (@yBw))) (And.intro (And.intro (@yBx) (@yBy)) (And.intro (@yBz) (And.intro (@yAv) (@yAw))))) (And.intro (And.intro (And.intro (@yAx) (@yAy)) (And.intro (@zPw) (And.intro (@zTx) (@zTy)))) (And.intro (And.intro (@zSy) (@zTz)) (And.intro (@zSv) (And.intro (@yNv) (@yNw))))))))
def OkA (a:Att):Prop:=(-1≤a.at_∧a.at_≤128)∧a.L≤128
theorem best1_mem : ∀ (l:List Att) (m:Att),best1 m l=m∨best1 m l ∈ l
  | [],m=>.inl rfl
  | x :: l,m=>by
    show best1 (if m.bound<x.bound then x else m) l=m∨_
    rcases best1_mem l (if m.bound<x.bound then x else m) with h|h
    · rw [h]
      split
      · exact .inr (by rw [show best1 m (x :: l)=best1 (if m.bound<x.bound then x else m) l from rfl,h,if_pos (by assumption)];simp)
      · exact .inl rfl
    · exact .inr (List.mem_cons_of_mem _ h)
theorem bestC (m:Att) (l:List Att) (hn:l.length≤1000) (hok : ∀ x ∈ m :: l,OkA x) (a:AV) (hc:CapU 4 a) (h:H) (wf:Wf h) (hs:Sl h a 4 (m :: l).length ((m :: l).flatMap attC)) :
    (om Try.prog KK).call (.fn 73 [a,.fn 74 [] []]) h = .ok (.agg (attC (bestA (m :: l)))) h:=by
  obtain ⟨f1,f2⟩:=yXy hs
  obtain ⟨b,hcut,hsb,hcb⟩:=hs.cutFrom (P:=Try.prog) (k:=1) (by simp) un_63 zRy (by omega) hc
  have hsb:Sl h b 4 l.length (l.flatMap attC):=by
    have e1:(m :: l).length - 1=l.length:=by simp
    have e2:((m :: l).flatMap attC).drop (1 * 4)=l.flatMap attC:=by rw [List.flatMap_cons];exact List.drop_left' rfl
    rw [e1,e2] at hsb
    exact hsb
  obtain ⟨f3,f4⟩:=yXy hsb
  have hlb : ∀ h',lenE Try.prog 63 b h'=some (ii (l.length:Int)):=fun h'=>hsb.len un_63
  obtain ⟨id,off,hix,hld⟩:=hs.at wf (i:=0) (by simp) zSy
  have hix:indexAddrE Try.prog 63 a (.int .i64 0)=some (.ptr id off):=hix
  have hld : ∀ l w,loadAgg id off (some 4) (X h l w)=some (.agg [uu (m.T % 2 ^ 64),uu (m.T >>> 64),ii (m.L:Int),ii m.at_]):=fun l w=>(hld l w).2
  have cst : ∀ x ∈ m :: l,∀ (J:List AO) (w:Nat),w≤h.clock+J.length→(om Try.prog KK).call (.fn 74 [.agg [uu (x.T % 2 ^ 64),uu (x.T >>> 64),ii (x.L:Int),ii x.at_]]) (X h J w) = .ok (ii x.bound) (X h J w):=fun x hx J w hw=>strong1 x _ (wf.X hw) (hok x hx).1 (hok x hx).2
  refine ySv (zLv (fn:=Try.f73) Try.func73 rfl rfl rfl rfl rfl ?_)
  simp only [zLx]
  (repeat' (first
  | (with_reducible first|refine zJw ?_|refine zGv ?_|refine zFz ?_|refine zEv ?_|refine zFy ?_|refine zJv ?_|refine zHz ?_|refine zCz ?_|refine zDw ?_|refine zCy ?_|refine zCv ?_|refine zEx ?_|refine zDz ?_|refine zCx ?_|refine zBx ?_|refine zEz ?_|refine zEy ?_|refine zBz ?_|refine zBy ?_)
  | refine zDy ?_|refine zEw rfl ?_|refine zJz ?_|refine zJx ?_
  | ((first|refine zGw rfl rfl rfl rfl rfl fun K_ hK_=>?_|refine zGx rfl rfl rfl rfl rfl fun K_ hK_=>?_);simp only [zAz,zDx,zGz,↓reduceIte,reduceCtorEq,Nat.reduceEqDiff,Bool.not_true,Bool.not_false];refine hK_ _ ?_;clear hK_ K_)
  | refine zDv (by decide) ?_
  | ((try first|refine zKx rfl rfl rfl ?_|refine zIv rfl rfl ?_|refine zKw rfl rfl rfl ?_|refine zJy rfl rfl ?_);(refine zIw fun Q_ hQ_=>?_;simp (disch:=first|omega|(simp only [List.length_cons,List.length_nil,List.length_append];omega)) only [bb,bp,zLx,↓reduceIte,reduceCtorEq,Nat.reduceEqDiff,Nat.reduceLT,Nat.reduceLeDiff,Nat.reduceAdd,Nat.reduceMul,Nat.reduceSub,Nat.reduceBEq,Int.reduceToNat,cond_true,cond_false,eq_self,beq_self_eq_true,f1,f2,f3,f4,hix,hld,hcut,hlb,zFw wf,zGy wf,zBv wf,zFx wf,zAy wf,zAw,tEvZ15,zIy,zIz,zHv,zHw,zAv wf];first|(refine zCw (Q:=Q_) (fun hp_=>?_) (fun hp_=>?_) <;> first|(exfalso;omega)|(refine hQ_ _ _ ?_;clear hQ_ Q_))|(refine zBw (Q:=Q_) (fun hp_=>?_) (fun hp_=>?_) <;> first|(exfalso;omega)|(refine hQ_ _ _ ?_;clear hQ_ Q_))|(refine hQ_ _ _ ?_;clear hQ_ Q_)))
  | (refine zHy fun K_ hK_=>?_;simp (disch:=omega) only [zFv,zAz,zHx,↓reduceIte,reduceCtorEq,Nat.reduceEqDiff,Nat.reduceLT];refine hK_ _ ?_;clear hK_ K_)))
  refine zQx (α:=Nat) (fun (i:Nat) f d h'=>i≤l.length∧f 1 = .fn 74 [] []∧f 4 = .ptr (nx h 0) 0∧f 5 = .ptr (nx h 1) 0∧f 12=b∧f 13=ii (l.length:Int)∧f 14=ii (i:Int)∧d=[] ∧
    ∃ G w,h.clock≤w∧w≤h.clock+2+G.length∧h'=X h (.cells (zAx [.int .u64 0,.int .u64 0,.int .i64 0,.int .i64 0]) 67 :: .cells (zAx (attC (best1 m (l.take i)))) 67 :: G) w) (fun i=>l.length - i) ?_ (l.length+1) 0 (by omega) ?_
  · rintro i f d h' ⟨hi,g1,g4,g5,g12,g13,g14,rfl,G,w,hw,hw2,rfl⟩
    by_cases hlt:i<l.length
    · obtain ⟨id2,off2,hix2,hld2⟩:=hsb.at wf hlt zSy
      have hld2 : ∀ J w,loadAgg id2 off2 (some 4) (X h J w)=some (.agg [uu (l[i].T % 2 ^ 64),uu (l[i].T >>> 64),ii (l[i].L:Int),ii l[i].at_]):=fun J w=>by rw [(hld2 J w).2,flat_at xDv hlt];rfl
      have e1:best1 m (l.take (i+1))=if (best1 m (l.take i)).bound<l[i].bound then l[i] else best1 m (l.take i):=by rw [List.take_succ_eq_append_getElem hlt,best1_snoc]
      have hmem:best1 m (l.take i) ∈ m :: l:=by
        rcases best1_mem (l.take i) m with h|h
        · rw [h];simp
        · exact List.mem_cons_of_mem _ (List.mem_of_mem_take h)
      have c1:=cst _ hmem
      have c2:=cst l[i] (List.mem_cons_of_mem _ (List.getElem_mem hlt))
      generalize hB:best1 m (l.take i)=B at *
      generalize hxe:l[i]=x at *
      unfold attC
      have lx : ∀ (c1 c2:AO) w,loadAgg (nx h (G.length+1+1)) 0 (some 4) (X h (c1 :: c2 :: (G++[.cells (zAx [uu (x.T % 2 ^ 64),uu (x.T >>> 64),ii (x.L:Int),ii x.at_]) 67])) w)=some (.agg [uu (x.T % 2 ^ 64),uu (x.T >>> 64),ii (x.L:Int),ii x.at_]):=fun c1 c2 w=>by
        rw [zBv wf,show c1 :: c2 :: (G++[.cells (zAx [uu (x.T % 2 ^ 64),uu (x.T >>> 64),ii (x.L:Int),ii x.at_]) 67])=[c1,c2]++G++[.cells (zAx [uu (x.T % 2 ^ 64),uu (x.T >>> 64),ii (x.L:Int),ii x.at_]) 67] from rfl,show G.length+1+1=([c1,c2]++G).length by simp,xAy,List.getElem?_cons_zero,yYv (by decide)]
        rfl
      (repeat' (first
  | (with_reducible first|refine zJw ?_|refine zGv ?_|refine zFz ?_|refine zEv ?_|refine zFy ?_|refine zJv ?_|refine zHz ?_|refine zCz ?_|refine zDw ?_|refine zCy ?_|refine zCv ?_|refine zEx ?_|refine zDz ?_|refine zCx ?_|refine zBx ?_|refine zEz ?_|refine zEy ?_|refine zBz ?_|refine zBy ?_)
  | refine zDy ?_|refine zEw rfl ?_|refine zJz ?_|refine zJx ?_
  | ((first|refine zGw rfl rfl rfl rfl rfl fun K_ hK_=>?_|refine zGx rfl rfl rfl rfl rfl fun K_ hK_=>?_);simp only [zAz,zDx,zGz,↓reduceIte,reduceCtorEq,Nat.reduceEqDiff,Bool.not_true,Bool.not_false];refine hK_ _ ?_;clear hK_ K_)
  | refine zDv (by decide) ?_
  | ((try first|refine zKx rfl rfl rfl ?_|refine zIv rfl rfl ?_|refine zKw rfl rfl rfl ?_|refine zJy rfl rfl ?_);(refine zIw fun Q_ hQ_=>?_;simp (disch:=first|omega|(simp only [List.length_cons,List.length_nil,List.length_append];omega)) only [bb,bp,zLx,↓reduceIte,reduceCtorEq,Nat.reduceEqDiff,Nat.reduceLT,Nat.reduceLeDiff,Nat.reduceAdd,Nat.reduceMul,Nat.reduceSub,Nat.reduceBEq,Int.reduceToNat,cond_true,cond_false,eq_self,beq_self_eq_true,f1,f2,f3,f4,g1,g4,g5,g12,g13,g14,hix2,hld2,hlb,zFw wf,zGy wf,zBv wf,zFx wf,zAy wf,zAw,tEvZ15,zIy,zIz,zHv,zHw,zAv wf];first|(refine zCw (Q:=Q_) (fun hp_=>?_) (fun hp_=>?_) <;> first|(exfalso;omega)|(refine hQ_ _ _ ?_;clear hQ_ Q_))|(refine zBw (Q:=Q_) (fun hp_=>?_) (fun hp_=>?_) <;> first|(exfalso;omega)|(refine hQ_ _ _ ?_;clear hQ_ Q_))|(refine hQ_ _ _ ?_;clear hQ_ Q_)))
  | (refine zHy fun K_ hK_=>?_;simp (disch:=omega) only [zFv,zAz,zHx,↓reduceIte,reduceCtorEq,Nat.reduceEqDiff,Nat.reduceLT];refine hK_ _ ?_;clear hK_ K_)))
      refine zPy [.no,.no,.no,.no,.no,.full,.full] (by kernel_rfl) ?_
      (repeat' (first
  | (with_reducible first|refine zJw ?_|refine zGv ?_|refine zFz ?_|refine zEv ?_|refine zFy ?_|refine zJv ?_|refine zHz ?_|refine zCz ?_|refine zDw ?_|refine zCy ?_|refine zCv ?_|refine zEx ?_|refine zDz ?_|refine zCx ?_|refine zBx ?_|refine zEz ?_|refine zEy ?_|refine zBz ?_|refine zBy ?_)
  | refine zDy ?_|refine zEw rfl ?_|refine zJz ?_|refine zJx ?_
  | ((first|refine zGw rfl rfl rfl rfl rfl fun K_ hK_=>?_|refine zGx rfl rfl rfl rfl rfl fun K_ hK_=>?_);simp only [zAz,zDx,zGz,↓reduceIte,reduceCtorEq,Nat.reduceEqDiff,Bool.not_true,Bool.not_false];refine hK_ _ ?_;clear hK_ K_)
  | refine zDv (by decide) ?_
  | ((try first|refine zKx rfl rfl rfl ?_|refine zIv rfl rfl ?_|refine zKw rfl rfl rfl ?_|refine zJy rfl rfl ?_);(refine zIw fun Q_ hQ_=>?_;simp (disch:=first|omega|(simp only [List.length_cons,List.length_nil,List.length_append];omega)) only [bb,bp,zLx,↓reduceIte,reduceCtorEq,Nat.reduceEqDiff,Nat.reduceLT,Nat.reduceLeDiff,Nat.reduceAdd,Nat.reduceMul,Nat.reduceSub,Nat.reduceBEq,Int.reduceToNat,cond_true,cond_false,eq_self,beq_self_eq_true,f1,f2,f3,f4,g1,g4,g5,g12,g13,g14,hix2,hld2,hlb,lx,c1,c2,xOz,zFw wf,zGy wf,zBv wf,zFx wf,zAy wf,tEvZ15,zIy,zIz,zHv,zHw,zAv wf];first|(refine zCw (Q:=Q_) (fun hp_=>?_) (fun hp_=>?_) <;> first|(exfalso;omega)|(refine hQ_ _ _ ?_;clear hQ_ Q_))|(refine zBw (Q:=Q_) (fun hp_=>?_) (fun hp_=>?_) <;> first|(exfalso;omega)|(refine hQ_ _ _ ?_;clear hQ_ Q_))|(refine hQ_ _ _ ?_;clear hQ_ Q_)))
  | (refine zHy fun K_ hK_=>?_;simp (disch:=omega) only [zFv,zAz,zHx,↓reduceIte,reduceCtorEq,Nat.reduceEqDiff,Nat.reduceLT];refine hK_ _ ?_;clear hK_ K_)))
      · have e2:best1 m (l.take (i+1))=x:=by rw [e1,if_pos (by assumption)]
        refine zKz (i+1) (by omega) ⟨hlt,by simp only [zAz,↓reduceIte,reduceCtorEq,Nat.reduceEqDiff];exact g1,by simp only [zAz,↓reduceIte,reduceCtorEq,Nat.reduceEqDiff];exact g4,by simp only [zAz,↓reduceIte,reduceCtorEq,Nat.reduceEqDiff];exact g5,by simp only [zAz,↓reduceIte,reduceCtorEq,Nat.reduceEqDiff];exact g12,by simp only [zAz,↓reduceIte,reduceCtorEq,Nat.reduceEqDiff];exact g13,by simp only [zAz,↓reduceIte,reduceCtorEq,Nat.reduceEqDiff];rfl,rfl,G++[.cells (zAx [uu (x.T % 2 ^ 64),uu (x.T >>> 64),ii (x.L:Int),ii x.at_]) 67],_,?_,?_,by rw [e2]⟩
        · omega
        · simp only [List.length_append,List.length_cons,List.length_nil];omega
      · have e2:best1 m (l.take (i+1))=B:=by rw [e1,if_neg (by assumption)]
        refine zKz (i+1) (by omega) ⟨hlt,by simp only [zAz,↓reduceIte,reduceCtorEq,Nat.reduceEqDiff];exact g1,by simp only [zAz,↓reduceIte,reduceCtorEq,Nat.reduceEqDiff];exact g4,by simp only [zAz,↓reduceIte,reduceCtorEq,Nat.reduceEqDiff];exact g5,by simp only [zAz,↓reduceIte,reduceCtorEq,Nat.reduceEqDiff];exact g12,by simp only [zAz,↓reduceIte,reduceCtorEq,Nat.reduceEqDiff];exact g13,by simp only [zAz,↓reduceIte,reduceCtorEq,Nat.reduceEqDiff];rfl,rfl,G++[.cells (zAx [uu (x.T % 2 ^ 64),uu (x.T >>> 64),ii (x.L:Int),ii x.at_]) 67],_,?_,?_,by rw [e2]⟩
        · omega
        · simp only [List.length_append,List.length_cons,List.length_nil];omega
    · have:i=l.length:=by omega
      subst this
      rw [List.take_length,show bestA (m :: l)=best1 m l from rfl]
      unfold attC
      (repeat' (first
  | (with_reducible first|refine zJw ?_|refine zGv ?_|refine zFz ?_|refine zEv ?_|refine zFy ?_|refine zJv ?_|refine zHz ?_|refine zCz ?_|refine zDw ?_|refine zCy ?_|refine zCv ?_|refine zEx ?_|refine zDz ?_|refine zCx ?_|refine zBx ?_|refine zEz ?_|refine zEy ?_|refine zBz ?_|refine zBy ?_)
  | refine zDy ?_|refine zEw rfl ?_|refine zJz ?_|refine zJx ?_
  | ((first|refine zGw rfl rfl rfl rfl rfl fun K_ hK_=>?_|refine zGx rfl rfl rfl rfl rfl fun K_ hK_=>?_);simp only [zAz,zDx,zGz,↓reduceIte,reduceCtorEq,Nat.reduceEqDiff,Bool.not_true,Bool.not_false];refine hK_ _ ?_;clear hK_ K_)
  | refine zDv (by decide) ?_
  | ((try first|refine zKx rfl rfl rfl ?_|refine zIv rfl rfl ?_|refine zKw rfl rfl rfl ?_|refine zJy rfl rfl ?_);(refine zIw fun Q_ hQ_=>?_;simp (disch:=first|omega|(simp only [List.length_cons,List.length_nil,List.length_append];omega)) only [bb,bp,zLx,↓reduceIte,reduceCtorEq,Nat.reduceEqDiff,Nat.reduceLT,Nat.reduceLeDiff,Nat.reduceAdd,Nat.reduceMul,Nat.reduceSub,Nat.reduceBEq,Int.reduceToNat,cond_true,cond_false,eq_self,beq_self_eq_true,f1,f2,f3,f4,g1,g4,g5,g12,g13,g14,hlb,zFw wf,zGy wf,zBv wf,zFx wf,zAy wf,zAw,tEvZ15,zIy,zIz,zHv,zHw,zAv wf];first|(refine zCw (Q:=Q_) (fun hp_=>?_) (fun hp_=>?_) <;> first|(exfalso;omega)|(refine hQ_ _ _ ?_;clear hQ_ Q_))|(refine zBw (Q:=Q_) (fun hp_=>?_) (fun hp_=>?_) <;> first|(exfalso;omega)|(refine hQ_ _ _ ?_;clear hQ_ Q_))|(refine hQ_ _ _ ?_;clear hQ_ Q_)))
  | (refine zHy fun K_ hK_=>?_;simp (disch:=omega) only [zFv,zAz,zHx,↓reduceIte,reduceCtorEq,Nat.reduceEqDiff,Nat.reduceLT];refine hK_ _ ?_;clear hK_ K_)))
      refine zKy _ _ rfl (retc0 (by decide) (by simp (disch:=first|omega|(simp only [List.length_cons,List.length_nil,List.length_append];omega)) only [bb,bp,zLx,↓reduceIte,reduceCtorEq,Nat.reduceEqDiff,Nat.reduceLT,Nat.reduceLeDiff,Nat.reduceAdd,Nat.reduceMul,Nat.reduceSub,Nat.reduceBEq,Int.reduceToNat,cond_true,cond_false,eq_self,beq_self_eq_true,g4,zBv wf,tEvZ15,zIy,zIz,zHv,zHw,zAv wf];rfl)) ?_
      refine zLy rfl (by omega) ?_
      exact ⟨rfl,rfl⟩
  · exact ⟨by omega,rfl,rfl,rfl,rfl,rfl,rfl,rfl,[],h.clock,by omega,by omega,by rw [List.take_zero];rfl⟩
theorem strongest (l:List Att) (hne:l≠[]) (hn:l.length≤1000) (hok : ∀ x ∈ l,OkA x) (a:AV) (hc:CapU 4 a) (h:H) (wf:Wf h) (hs:Sl h a 4 l.length (l.flatMap attC)) :
    (om Try.prog KK).call (.fn 55 [a]) h = .ok (.agg (attC (bestA l))) h:=by
  obtain ⟨f1,f2⟩:=yXy hs
  have c1 : ∀ (J:List AO) (w:Nat),w≤h.clock+J.length→(om Try.prog KK).call (.fn 73 [a,.fn 74 [] []]) (X h J w) = .ok (.agg [uu ((bestA l).T % 2 ^ 64),uu ((bestA l).T >>> 64),ii ((bestA l).L:Int),ii (bestA l).at_]) (X h J w):=fun J w hw=>by
    match l,hne with
    | m :: l,_=>exact bestC m l (by simp at hn;omega) hok a hc _ (wf.X hw) (hs.up wf J w)
  refine ySv (zLv (fn:=Try.f55) Try.func55 rfl rfl rfl rfl rfl ?_)
  simp only [zLx]
  unfold attC
  (repeat' (first
  | (with_reducible first|refine zJw ?_|refine zGv ?_|refine zFz ?_|refine zEv ?_|refine zFy ?_|refine zJv ?_|refine zHz ?_|refine zCz ?_|refine zDw ?_|refine zCy ?_|refine zCv ?_|refine zEx ?_|refine zDz ?_|refine zCx ?_|refine zBx ?_|refine zEz ?_|refine zEy ?_|refine zBz ?_|refine zBy ?_)
  | refine zDy ?_|refine zEw rfl ?_|refine zJz ?_|refine zJx ?_
  | ((first|refine zGw rfl rfl rfl rfl rfl fun K_ hK_=>?_|refine zGx rfl rfl rfl rfl rfl fun K_ hK_=>?_);simp only [zAz,zDx,zGz,↓reduceIte,reduceCtorEq,Nat.reduceEqDiff,Bool.not_true,Bool.not_false];refine hK_ _ ?_;clear hK_ K_)
  | refine zDv (by decide) ?_
  | ((try first|refine zKx rfl rfl rfl ?_|refine zIv rfl rfl ?_|refine zKw rfl rfl rfl ?_|refine zJy rfl rfl ?_);(refine zIw fun Q_ hQ_=>?_;simp (disch:=first|omega|(simp only [List.length_cons,List.length_nil,List.length_append];omega)) only [bb,bp,zLx,↓reduceIte,reduceCtorEq,Nat.reduceEqDiff,Nat.reduceLT,Nat.reduceLeDiff,Nat.reduceAdd,Nat.reduceMul,Nat.reduceSub,Nat.reduceBEq,Int.reduceToNat,cond_true,cond_false,eq_self,beq_self_eq_true,f1,f2,zFw wf,zGy wf,zBv wf,zFx wf,zAy wf,zAw,tEvZ15,zIy,zIz,zHv,zHw,zAv wf];first|(refine zCw (Q:=Q_) (fun hp_=>?_) (fun hp_=>?_) <;> first|(exfalso;omega)|(refine hQ_ _ _ ?_;clear hQ_ Q_))|(refine zBw (Q:=Q_) (fun hp_=>?_) (fun hp_=>?_) <;> first|(exfalso;omega)|(refine hQ_ _ _ ?_;clear hQ_ Q_))|(refine hQ_ _ _ ?_;clear hQ_ Q_)|(refine zQv (c1 _ _ (by first|omega|(simp only [List.length_append,List.length_cons,List.length_nil];omega))) ?_;refine hQ_ _ _ ?_;clear hQ_ Q_)))
  | (refine zHy fun K_ hK_=>?_;simp (disch:=omega) only [zFv,zAz,zHx,↓reduceIte,reduceCtorEq,Nat.reduceEqDiff,Nat.reduceLT];refine hK_ _ ?_;clear hK_ K_)))
  refine zKy _ _ rfl (retc0 (by decide) (by simp (disch:=first|omega|(simp only [List.length_cons,List.length_nil,List.length_append];omega)) only [bb,bp,zLx,↓reduceIte,reduceCtorEq,Nat.reduceEqDiff,Nat.reduceLT,Nat.reduceLeDiff,Nat.reduceAdd,Nat.reduceMul,Nat.reduceSub,Nat.reduceBEq,Int.reduceToNat,cond_true,cond_false,eq_self,beq_self_eq_true,zBv wf,tEvZ15,zIy,zIz,zHv,zHw,zAv wf];rfl)) ?_
  refine zLy rfl (by omega) ?_
  exact ⟨rfl,rfl⟩
end Go.Proofs.Ytmincoafjnnkpaa
end

section
namespace Go.Ev
section
variable {P:Program}
end
end Go.Ev
end

section
namespace Go.Ev
section
variable {P:Program}
theorem append_full {h0:H} (wf:Wf h0) {t e size bytes k len:Nat} {z x:AV} (hu:P.underlying t=some (.slice e)) (hz:sizeE P e=some size) (E:El P e size bytes z) {n:Nat} {new old:List AV} {l:List AO} {w e':Nat} (hn:len+n≤10000000) (hn0:n≠0) (hb:bytes≤100000)
    (hk:l[k]? = some (.cells (zAx old) e')) (ho:old.length=len * size) (hs:srcCells (X h0 l w) size x=some (n,new)) (hc:new.length=n * size):appendE P t (.sl (nx h0 k) 0 len (some len) size) x (X h0 l w) = .ok (.sl (nx h0 l.length) 0 (len+n) none size) (X h0 (l++[.cells (zAx (old++new)) e]) w):=by
  unfold appendE
  rw [hu];dsimp only;rw [hz];dsimp only;rw [hs];dsimp only
  rw [show Nat.beq n 0=false from by cases hb:Nat.beq n 0 with|false=>rfl|true=>exact absurd (Nat.eq_of_beq_eq_true hb) hn0]
  show appendSome P e size n new (.sl (nx h0 k) 0 len (some len) size) (X h0 l w)=_
  unfold appendSome
  dsimp only
  rw [show Nat.beq size size=true from Nat.beq_refl size]
  dsimp only [cond]
  rw [show Nat.ble (Nat.add len n) len=false from by
    cases hb:Nat.ble (Nat.add len n) len with
    | false=>rfl
    | true=>exact absurd (Nat.le_of_ble_eq_true hb) (by show ¬ len+n≤len;omega)]
  dsimp only [cond]
  rw [show readCells (X h0 l w) (nx h0 k) 0 (len * size)=some old from by
    unfold readCells
    rw [zOw wf,hk]
    show readM _ (len * size) 0=some old
    rw [yXw _ _ _ (by omega),List.drop_zero,List.take_of_length_le (by omega)]]
  dsimp only
  rw [zKv,show Nat.add len n=len+n from rfl]
  exact growE_X wf E hn hb (by rw [List.length_append,ho,hc,Nat.add_mul])
def LineV (h:H) (L:List AO) (e:TypeId) (lv:AV) (cs:List AV):Prop:=∃ idx c,lv = .sl (nx h idx) 0 cs.length c 1∧L[idx]? = some (.cells (zAx cs) e)∧(c=none∨c=some cs.length)
theorem LineV.flat {h:H} {L:List AO} {e:TypeId} {lv:AV} {cs:List AV} (x:LineV h L e lv cs):AV.cells lv=[lv]∧oneB lv=true:=by obtain ⟨_,_,rfl,_⟩:=x;exact ⟨rfl,rfl⟩
theorem LineV.resz {h:H} {L:List AO} {e:TypeId} {lv:AV} {cs:List AV} (x:LineV h L e lv cs) {t:TypeId} (hu:P.underlying t=some (.slice e)) (hz:sizeE P e=some 1):reszT P t lv=lv:=by
  obtain ⟨_,c,rfl,_,hc⟩:=x
  cases c with
  | none=>exact yTv
  | some c=>exact xGv hu hz
theorem LineV.sl {h:H} (wf:Wf h) {L:List AO} {e:TypeId} {lv:AV} {cs:List AV} (x:LineV h L e lv cs) (w:Nat):Sl (X h L w) lv 1 cs.length cs:=by
  obtain ⟨idx,c,rfl,hk,hc⟩:=x
  exact Sl.new wf (by rw [Nat.mul_one]) hk
theorem LineV.app {h:H} (wf:Wf h) {L:List AO} {e bytes:Nat} {z lv v:AV} {cs:List AV} (x:LineV h L e lv cs) {t:TypeId} (hu:P.underlying t=some (.slice e)) (hz:sizeE P e=some 1) (E:El P e 1 bytes z) (hn:cs.length≤1000000) (hb:bytes≤100000) (hv:oneB v=true) (c:Nat) (w:Nat) (hw:h.clock≤w) :
    ∃ lv' L' o w',Chg e L L'∧LineV h (L'++[.cells (zAx [v]) e,o]) e lv' (cs++[v])∧h.clock≤w'∧w'≤w∧appendE P t lv (.sl (nx h L.length) 0 1 (some c) 1) (X h (L++[.cells (zAx [v]) e]) w) = .ok lv' (X h (L'++[.cells (zAx [v]) e,o]) w'):=by
  obtain ⟨idx,c0,rfl,hk,hc⟩:=x
  have hkl:=zOz hk
  have hk':(L++[.cells (zAx [v]) e])[idx]? = some (.cells (zAx cs) e):=by rw [List.getElem?_append_left hkl];exact hk
  have hs:srcCells (X h (L++[.cells (zAx [v]) e]) w) 1 (.sl (nx h L.length) 0 1 (some c) 1)=some (1,[v]):=src_new (e:=e) wf (by rw [xAy];rfl) rfl
  have hlen:(L++[AO.cells (zAx [v]) e]).length=L.length+1:=by rw [List.length_append];rfl
  rcases hc with rfl|rfl
  · refine ⟨_,L.set idx .dead,.cells (zAx (cs++[v])) e,min (h.clock+idx) w,⟨by simp,fun k o hk2 hno=>?_⟩,⟨L.length+1,none,rfl,?_,.inl rfl⟩,?_,?_,?_⟩
    rotate_right 1
    · rw [xEz wf hu hz E (by omega) (by decide) hb hk' (by rw [Nat.mul_one]) hs rfl (by rw [yUx,hv];rfl),hlen,List.set_append_left _ _ hkl,List.append_assoc,List.length_append]
      rfl
    · have hne:idx≠k:=fun e1=>by
        subst e1
        rw [hk] at hk2
        cases hk2
        exact hno _ rfl
      rw [List.getElem?_set_ne hne];exact hk2
    · rw [List.getElem?_append_right (by simp),List.length_set,Nat.add_sub_cancel_left];rfl
    · omega
    · omega
  · refine ⟨_,L,.cells (zAx (cs++[v])) e,w,Chg.rfl' _,⟨L.length+1,none,rfl,?_,.inl rfl⟩,?_,?_,?_⟩
    rotate_right 1
    · rw [append_full wf hu hz E (by omega) (by decide) hb hk' (by rw [Nat.mul_one]) hs rfl,hlen,List.append_assoc,List.length_append]
      rfl
    · rw [List.getElem?_append_right (by omega),Nat.add_sub_cancel_left];rfl
    · exact hw
    · exact Nat.le_refl _
end
end Go.Ev
namespace Go.Ev
theorem LineV.keep {h:H} {L L':List AO} {e:TypeId} {lv:AV} {cs:List AV} (x:LineV h L e lv cs) (k:Keep e L L'):LineV h L' e lv cs:=by
  obtain ⟨idx,c,rfl,hk,hc⟩:=x
  exact ⟨idx,c,rfl,k _ _ hk,hc⟩
end Go.Ev
namespace Go.Ev
theorem LineV.down {h:H} {G M:List AO} {w:Nat} {e:TypeId} {lv:AV} {cs:List AV} (x:LineV (X h G w) M e lv cs):LineV h (G++M) e lv cs:=by
  obtain ⟨idx,c,rfl,hk,hc⟩:=x
  exact ⟨G.length+idx,c,by rw [nx_X],by rw [List.getElem?_append_right (by omega),Nat.add_sub_cancel_left];exact hk,hc⟩
def LV (h:H) (G:List AO) (vs:List AV) (ls:List (List Int)):Prop:=vs.length=ls.length ∧ ∀ (i:Nat) (u:AV) (l:List Int),vs[i]? = some u→ls[i]? = some l→LineV h G 2 u (l.map fun n=>.int .i64 n)
theorem LV.nil (h:H) (G:List AO):LV h G [] []:=⟨rfl,fun i u l h1 _=>by simp at h1⟩
theorem LV.append {h:H} {G:List AO} {vs us:List AV} {ls ms:List (List Int)} (x:LV h G vs ls) (y:LV h G us ms):LV h G (vs++us) (ls++ms):=by
  refine ⟨by rw [List.length_append,List.length_append,x.1,y.1],fun i u l h1 h2=>?_⟩
  rcases Nat.lt_or_ge i vs.length with hi|hi
  · rw [List.getElem?_append_left hi] at h1
    rw [List.getElem?_append_left (by rw [← x.1];exact hi)] at h2
    exact x.2 i u l h1 h2
  · rw [List.getElem?_append_right hi] at h1
    rw [List.getElem?_append_right (by rw [← x.1];exact hi),← x.1] at h2
    exact y.2 _ u l h1 h2
theorem LV.all {h:H} {G:List AO} {vs:List AV} {ls:List (List Int)} (x:LV h G vs ls):allOne vs=true:=by
  have key : ∀ vs:List AV,(∀ u ∈ vs,oneB u=true)→allOne vs=true:=by
    intro vs
    induction vs with
    | nil=>intro _;rfl
    | cons u vs ih=>intro hu;rw [yUx,hu u (by simp),ih fun w hw=>hu w (by simp [hw])];rfl
  refine key vs fun u hu=>?_
  obtain ⟨i,hi⟩:=List.getElem?_of_mem hu
  have hl:=zOz hi
  exact (x.2 i u _ hi (List.getElem?_eq_getElem (by rw [← x.1];exact hl))).flat.2
theorem LV.mono {h:H} {G G':List AO} {vs:List AV} {ls:List (List Int)} (x:LV h G vs ls) (k : ∀ u cs,LineV h G 2 u cs→LineV h G' 2 u cs):LV h G' vs ls:=⟨x.1,fun i u l h1 h2=>k _ _ (x.2 i u l h1 h2)⟩
theorem LineV.more {h:H} {L:List AO} {e:TypeId} {lv:AV} {cs:List AV} (x:LineV h L e lv cs) (M:List AO):LineV h (L++M) e lv cs:=x.keep (Keep.more _ _)
end Go.Ev
namespace Go.Ev
end Go.Ev
end

section
namespace Go.Proofs.Ytmincoafjnnkpaa
open Go.Ev
set_option maxRecDepth 100000
set_option linter.unusedSimpArgs false
set_option linter.unusedVariables false
set_option maxHeartbeats 2000000
def AttsAt (h:H) (M:List AO) (idx:Nat) (l:List Att) (v:AV):Prop:=∃ cap,v = .sl (nx h idx) 0 l.length cap 4∧M[idx]? = some (.cells (zAx (l.flatMap attC)) 67)∧(cap=none∨cap=some l.length)
theorem AttsAt.sl {h:H} (wf:Wf h) {M:List AO} {idx:Nat} {l:List Att} {v:AV} (x:AttsAt h M idx l v) (w:Nat):Sl (X h M w) v 4 l.length (l.flatMap attC):=by
  obtain ⟨cap,rfl,hM,_⟩:=x
  exact Sl.new wf (xYz xDv l) hM
theorem AttsAt.more {h:H} {M:List AO} {idx:Nat} {l:List Att} {v:AV} (x:AttsAt h M idx l v) (J:List AO):AttsAt h (M++J) idx l v:=by
  obtain ⟨cap,rfl,hM,hc⟩:=x
  exact ⟨cap,rfl,by rw [List.getElem?_append_left (zOz hM)];exact hM,hc⟩
theorem AttsAt.app {h:H} (wf:Wf h) {M:List AO} {idx:Nat} {l:List Att} {v:AV} (x:AttsAt h M idx l v) (a:Att) (hn:l.length≤1000) :
    ∃ v' M',AttsAt h M' (M.length+1) (l++[a]) v'∧M'.length=M.length+2∧(∀ k o,k≠idx→M[k]? = some o→M'[k]? = some o) ∧ ∀ w,∃ w',min (h.clock+idx) w≤w'∧w'≤w ∧
      appendE Try.prog 63 (reszT Try.prog 63 v) (.sl (nx h M.length) 0 1 (some 1) 4) (X h (M++[.cells (zAx (attC a)) 67]) w) = .ok v' (X h M' w'):=by
  obtain ⟨cap,rfl,hM,hc⟩:=x
  have hlt:=zOz hM
  have hM':(M++[AO.cells (zAx (attC a)) 67])[idx]? = some (.cells (zAx (l.flatMap attC)) 67):=by rw [List.getElem?_append_left hlt];exact hM
  have hs : ∀ w,srcCells (X h (M++[.cells (zAx (attC a)) 67]) w) 4 (.sl (nx h M.length) 0 1 (some 1) 4)=some (1,attC a):=fun w=>src_new (e:=67) wf (by rw [xAy];rfl) rfl
  have hlen:(M++[AO.cells (zAx (attC a)) 67]).length=M.length+1:=by rw [List.length_append];rfl
  have hfm:(l++[a]).flatMap attC=l.flatMap attC++attC a:=by rw [List.flatMap_append];simp
  rcases hc with rfl|rfl
  · have happ:=fun w=>xEz (P:=Try.prog) (t:=63) (w:=w) wf un_63 zRy el_67 (n:=1) (by omega) (by decide) (by decide) hM' (xYz xDv l) (hs w) rfl rfl
    simp only [hlen] at happ
    refine ⟨_,_,⟨none,by rw [List.length_append];try rfl,?_,.inl rfl⟩,?_,?_,fun w=>⟨_,Nat.le_refl _,Nat.min_le_right _ _,by rw [yTv];exact happ w⟩⟩
    · rw [hfm];simp
    · simp
    · intro k o hk ho
      have hkl:=zOz ho
      rw [List.getElem?_append_left (by simp;omega),List.getElem?_set_ne (Ne.symm hk),List.getElem?_append_left hkl];exact ho
  · have happ:=fun w=>append_full (P:=Try.prog) (t:=63) (w:=w) wf un_63 zRy el_67 (n:=1) (by omega) (by decide) (by decide) hM' (xYz xDv l) (hs w) rfl
    simp only [hlen] at happ
    refine ⟨_,_,⟨none,by rw [List.length_append];try rfl,?_,.inl rfl⟩,?_,?_,fun w=>⟨w,Nat.min_le_right _ _,Nat.le_refl _,by rw [xGv un_63 zRy];exact happ w⟩⟩
    · rw [hfm];simp
    · simp
    · intro k o hk ho
      have hkl:=zOz ho
      rw [List.append_assoc,List.getElem?_append_left hkl];exact ho
end Go.Proofs.Ytmincoafjnnkpaa
end

section
namespace Go.Proofs.Ytmincoafjnnkpaa
open Go.Ev
set_option maxRecDepth 100000
set_option linter.unusedSimpArgs false
set_option linter.unusedVariables false
set_option maxHeartbeats 2000000
theorem tEvZ13 :type_of% (And.intro (And.intro (And.intro (And.intro (And.intro (And.intro (And.intro (@ySz) (@yRv)) (And.intro (@yRw) (@yRx))) (And.intro (And.intro (@yRy) (@yRz)) (And.intro (@ia_2) (And.intro (@ia_3) (@ia_4))))) (And.intro (And.intro (And.intro (@ia_5) (@yQv)) (And.intro (@yQw) (@yQx))) (And.intro (And.intro (@yQy) (@yQz)) (And.intro (@yPv) (And.intro (@zSx) (@yPw)))))) (And.intro (And.intro (And.intro (And.intro (@yPx) (@yPy)) (And.intro (@yPz) (@yOv))) (And.intro (And.intro (@yOw) (@yOx)) (And.intro (@yOy) (And.intro (@yOz) (@sz_2))))) (And.intro (And.intro (And.intro (@sz_3) (@sz_4)) (And.intro (@sz_5) (And.intro (@zZv) (@zZw)))) (And.intro (And.intro (@zZx) (@zZy)) (And.intro (@zZz) (And.intro (@zYv) (@zSz))))))) (And.intro (And.intro (And.intro (And.intro (And.intro (@zYw) (@zYx)) (And.intro (@zYy) (@zRy))) (And.intro (And.intro (@zYz) (@zXv)) (And.intro (@zXw) (And.intro (@zXx) (@zXy))))) (And.intro (And.intro (And.intro (@ze_2) (@ze_3)) (And.intro (@ze_4) (And.intro (@ze_5) (@zXz)))) (And.intro (And.intro (@zWv) (@zWw)) (And.intro (@zWx) (And.intro (@zWy) (@zWz)))))) (And.intro (And.intro (And.intro (And.intro (@zVv) (@zVw)) (And.intro (@zVx) (@zVy))) (And.intro (And.intro (@zVz) (@zUv)) (And.intro (@zUw) (And.intro (@zUx) (@zUy))))) (And.intro (And.intro (And.intro (@zNv) (@zNw)) (And.intro (@zNx) (And.intro (@zNy) (@zNz)))) (And.intro (And.intro (@zMv) (@zMw)) (And.intro (@zMx) (And.intro (@zMy) (@yNx)))))))) (And.intro (And.intro (And.intro (And.intro (And.intro (And.intro (@yNy) (@yNz)) (And.intro (@yMv) (@yMw))) (And.intro (And.intro (@yMx) (@yMy)) (And.intro (@yMz) (And.intro (@yLv) (@yLw))))) (And.intro (And.intro (And.intro (@yLx) (@yLy)) (And.intro (@yLz) (@yKv))) (And.intro (And.intro (@yKw) (@yKx)) (And.intro (@yKy) (And.intro (@yKz) (@yJv)))))) (And.intro (And.intro (And.intro (And.intro (@yJw) (@yJx)) (And.intro (@yJy) (@yJz))) (And.intro (And.intro (@yIv) (@yIw)) (And.intro (@yIx) (And.intro (@yIy) (@yIz))))) (And.intro (And.intro (And.intro (@yHv) (@yHw)) (And.intro (@yHx) (And.intro (@yHy) (@yHz)))) (And.intro (And.intro (@yGv) (@yGw)) (And.intro (@yGx) (And.intro (@yGy) (@yGz))))))) (And.intro (And.intro (And.intro (And.intro (And.intro (@yFv) (@yFw)) (And.intro (@yFx) (@yFy))) (And.intro (And.intro (@yFz) (@yEv)) (And.intro (@yEw) (And.intro (@yEx) (@yEy))))) (And.intro (And.intro (And.intro (@yEz) (@yDv)) (And.intro (@yDw) (And.intro (@yDx) (@yDy)))) (And.intro (And.intro (@zSw) (@yDz)) (And.intro (@yCv) (And.intro (@yCw) (@yCx)))))) (And.intro (And.intro (And.intro (And.intro (@yCy) (@yCz)) (And.intro (@yBv) (@yBw))) (And.intro (And.intro (@yBx) (@yBy)) (And.intro (@yBz) (And.intro (@yAv) (@yAw))))) (And.intro (And.intro (And.intro (@yAx) (@yAy)) (And.intro (@zPw) (And.intro (@zTx) (@zTy)))) (And.intro (And.intro (@zSy) (@zTz)) (And.intro (@zSv) (And.intro (@yNv) (@yNw))))))))):=And.intro (And.intro (And.intro (And.intro (And.intro (And.intro (And.intro (@ySz) (@yRv)) (And.intro (@yRw) (@yRx))) (And.intro (And.intro (@yRy) (@yRz)) (And.intro (@ia_2) (And.intro (@ia_3) (@ia_4))))) (And.intro (And.intro (And.intro (@ia_5) (@yQv)) (And.intro (@yQw) (@yQx))) (And.intro (And.intro (@yQy) (@yQz)) (And.intro (@yPv) (And.intro (@zSx) (@yPw)))))) (And.intro (And.intro (And.intro (And.intro (@yPx) (@yPy)) (And.intro (@yPz) (@yOv))) (And.intro (And.intro (@yOw) (@yOx)) (And.intro (@yOy) (And.intro (@yOz) (@sz_2))))) (And.intro (And.intro (And.intro (@sz_3) (@sz_4)) (And.intro (@sz_5) (And.intro (@zZv) (@zZw)))) (And.intro (And.intro (@zZx) (@zZy)) (And.intro (@zZz) (And.intro (@zYv) (@zSz))))))) (And.intro (And.intro (And.intro (And.intro (And.intro (@zYw) (@zYx)) (And.intro (@zYy) (@zRy))) (And.intro (And.intro (@zYz) (@zXv)) (And.intro (@zXw) (And.intro (@zXx) (@zXy))))) (And.intro (And.intro (And.intro (@ze_2) (@ze_3)) (And.intro (@ze_4) (And.intro (@ze_5) (@zXz)))) (And.intro (And.intro (@zWv) (@zWw)) (And.intro (@zWx) (And.intro (@zWy) (@zWz)))))) (And.intro (And.intro (And.intro (And.intro (@zVv) (@zVw)) (And.intro (@zVx) (@zVy))) (And.intro (And.intro (@zVz) (@zUv)) (And.intro (@zUw) (And.intro (@zUx) (@zUy))))) (And.intro (And.intro (And.intro (@zNv) (@zNw)) (And.intro (@zNx) (And.intro (@zNy) (@zNz)))) (And.intro (And.intro (@zMv) (@zMw)) (And.intro (@zMx) (And.intro (@zMy) (@yNx)))))))) (And.intro (And.intro (And.intro (And.intro (And.intro (And.intro (@yNy) (@yNz)) (And.intro (@yMv) (@yMw))) (And.intro (And.intro (@yMx) (@yMy)) (And.intro (@yMz) (And.intro (@yLv) (@yLw))))) (And.intro (And.intro (And.intro (@yLx) (@yLy)) (And.intro (@yLz) (@yKv))) (And.intro (And.intro (@yKw) (@yKx)) (And.intro (@yKy) (And.intro (@yKz) (@yJv)))))) (And.intro (And.intro (And.intro (And.intro (@yJw) (@yJx)) (And.intro (@yJy) (@yJz))) (And.intro (And.intro (@yIv) (@yIw)) (And.intro (@yIx) (And.intro (@yIy) (@yIz))))) (And.intro (And.intro (And.intro (@yHv) (@yHw)) (And.intro (@yHx) (And.intro (@yHy) (@yHz)))) (And.intro (And.intro (@yGv) (@yGw)) (And.intro (@yGx) (And.intro (@yGy) (@yGz))))))) (And.intro (And.intro (And.intro (And.intro (And.intro (@yFv) (@yFw)) (And.intro (@yFx) (@yFy))) (And.intro (And.intro (@yFz) (@yEv)) (And.intro (@yEw) (And.intro (@yEx) (@yEy))))) (And.intro (And.intro (And.intro (@yEz) (@yDv)) (And.intro (@yDw) (And.intro (@yDx) (@yDy)))) (And.intro (And.intro (@zSw) (@yDz)) (And.intro (@yCv) (And.intro (@yCw) (@yCx)))))) (And.intro (And.intro (And.intro (And.intro (@yCy) (@yCz)) (And.intro (@yBv) (@yBw))) (And.intro (And.intro (@yBx) (@yBy)) (And.intro (@yBz) (And.intro (@yAv) (@yAw))))) (And.intro (And.intro (And.intro (@yAx) (@yAy)) (And.intro (@zPw) (And.intro (@zTx) (@zTy)))) (And.intro (And.intro (@zSy) (@zTz)) (And.intro (@zSv) (And.intro (@yNv) (@yNw))))))))
theorem runErr (xs ys:List Int) (many:Int) (a b:AV) (h:H) (wf:Wf h) (hs:Sl h a 1 xs.length (xs.map ii)) (ht:Sl h b 1 ys.length (ys.map ii)) (hne:errRun xs ys many≠0):(om Try.prog KK).call (.fn 16 [a,b,ii many]) h = .ok (.tup [.nils,ii (errRun xs ys many)]) h:=by
  obtain ⟨f1,f2⟩:=yXy ht
  have cst : ∀ (l:List AO) (w:Nat),w≤h.clock+l.length→(om Try.prog KK).call (.fn 41 [a,b]) (X h l w) = .ok (ii (err3 xs ys)) (X h l w):=fun l w hw=>checkStart xs ys a b _ (wf.X hw) (hs.up wf l w) (ht.up wf l w)
  unfold errRun at *
  refine ySv (zLv (fn:=Try.f16) Try.func16 rfl rfl rfl rfl rfl ?_)
  simp only [zLx]
  by_cases he:err3 xs ys=0
  · rw [if_pos he] at hne ⊢
    rw [he] at cst
    by_cases h0:many<0
    · rw [if_pos h0]
      (repeat' (first
  | (with_reducible first|refine zJw ?_|refine zGv ?_|refine zFz ?_|refine zEv ?_|refine zFy ?_|refine zJv ?_|refine zHz ?_|refine zCz ?_|refine zDw ?_|refine zCy ?_|refine zCv ?_|refine zEx ?_|refine zDz ?_|refine zCx ?_|refine zBx ?_|refine zEz ?_|refine zEy ?_|refine zBz ?_|refine zBy ?_)
  | refine zDy ?_|refine zEw rfl ?_|refine zJz ?_|refine zJx ?_
  | ((first|refine zGw rfl rfl rfl rfl rfl fun K_ hK_=>?_|refine zGx rfl rfl rfl rfl rfl fun K_ hK_=>?_);simp only [zAz,zDx,zGz,↓reduceIte,reduceCtorEq,Nat.reduceEqDiff,Bool.not_true,Bool.not_false];refine hK_ _ ?_;clear hK_ K_)
  | refine zDv (by decide) ?_
  | ((try first|refine zKx rfl rfl rfl ?_|refine zIv rfl rfl ?_|refine zKw rfl rfl rfl ?_|refine zJy rfl rfl ?_);(refine zIw fun Q_ hQ_=>?_;simp (disch:=first|omega|(simp only [List.length_cons,List.length_nil,List.length_append];omega)) only [bb,bp,zLx,↓reduceIte,reduceCtorEq,Nat.reduceEqDiff,Nat.reduceLT,Nat.reduceLeDiff,Nat.reduceAdd,Nat.reduceMul,Nat.reduceSub,Nat.reduceBEq,Int.reduceToNat,cond_true,cond_false,eq_self,beq_self_eq_true,f1,f2,zFw wf,zGy wf,zBv wf,zFx wf,zAy wf,zAw,tEvZ13,zIy,zIz,zHv,zHw,zAv wf];first|(refine zCw (Q:=Q_) (fun hp_=>?_) (fun hp_=>?_) <;> first|(exfalso;omega)|(refine hQ_ _ _ ?_;clear hQ_ Q_))|(refine zBw (Q:=Q_) (fun hp_=>?_) (fun hp_=>?_) <;> first|(exfalso;omega)|(refine hQ_ _ _ ?_;clear hQ_ Q_))|(refine hQ_ _ _ ?_;clear hQ_ Q_)|(refine zQv (cst _ _ (by first|omega|(simp only [List.length_append,List.length_cons,List.length_nil];omega))) ?_;refine hQ_ _ _ ?_;clear hQ_ Q_)))
  | (refine zHy fun K_ hK_=>?_;simp (disch:=omega) only [zFv,zAz,zHx,↓reduceIte,reduceCtorEq,Nat.reduceEqDiff,Nat.reduceLT];refine hK_ _ ?_;clear hK_ K_)))
      all_goals (refine zKy _ _ rfl (ret2 (by decide) (by decide)) ?_;simp only [zAz,↓reduceIte,reduceCtorEq,Nat.reduceEqDiff];refine zLy rfl (by omega) ?_)
      all_goals exact ⟨rfl,rfl⟩
    · rw [if_neg h0] at hne ⊢
      by_cases h1:4096<many
      · rw [if_pos h1]
        (repeat' (first
  | (with_reducible first|refine zJw ?_|refine zGv ?_|refine zFz ?_|refine zEv ?_|refine zFy ?_|refine zJv ?_|refine zHz ?_|refine zCz ?_|refine zDw ?_|refine zCy ?_|refine zCv ?_|refine zEx ?_|refine zDz ?_|refine zCx ?_|refine zBx ?_|refine zEz ?_|refine zEy ?_|refine zBz ?_|refine zBy ?_)
  | refine zDy ?_|refine zEw rfl ?_|refine zJz ?_|refine zJx ?_
  | ((first|refine zGw rfl rfl rfl rfl rfl fun K_ hK_=>?_|refine zGx rfl rfl rfl rfl rfl fun K_ hK_=>?_);simp only [zAz,zDx,zGz,↓reduceIte,reduceCtorEq,Nat.reduceEqDiff,Bool.not_true,Bool.not_false];refine hK_ _ ?_;clear hK_ K_)
  | refine zDv (by decide) ?_
  | ((try first|refine zKx rfl rfl rfl ?_|refine zIv rfl rfl ?_|refine zKw rfl rfl rfl ?_|refine zJy rfl rfl ?_);(refine zIw fun Q_ hQ_=>?_;simp (disch:=first|omega|(simp only [List.length_cons,List.length_nil,List.length_append];omega)) only [bb,bp,zLx,↓reduceIte,reduceCtorEq,Nat.reduceEqDiff,Nat.reduceLT,Nat.reduceLeDiff,Nat.reduceAdd,Nat.reduceMul,Nat.reduceSub,Nat.reduceBEq,Int.reduceToNat,cond_true,cond_false,eq_self,beq_self_eq_true,f1,f2,zFw wf,zGy wf,zBv wf,zFx wf,zAy wf,zAw,tEvZ13,zIy,zIz,zHv,zHw,zAv wf];first|(refine zCw (Q:=Q_) (fun hp_=>?_) (fun hp_=>?_) <;> first|(exfalso;omega)|(refine hQ_ _ _ ?_;clear hQ_ Q_))|(refine zBw (Q:=Q_) (fun hp_=>?_) (fun hp_=>?_) <;> first|(exfalso;omega)|(refine hQ_ _ _ ?_;clear hQ_ Q_))|(refine hQ_ _ _ ?_;clear hQ_ Q_)|(refine zQv (cst _ _ (by first|omega|(simp only [List.length_append,List.length_cons,List.length_nil];omega))) ?_;refine hQ_ _ _ ?_;clear hQ_ Q_)))
  | (refine zHy fun K_ hK_=>?_;simp (disch:=omega) only [zFv,zAz,zHx,↓reduceIte,reduceCtorEq,Nat.reduceEqDiff,Nat.reduceLT];refine hK_ _ ?_;clear hK_ K_)))
        all_goals (refine zKy _ _ rfl (ret2 (by decide) (by decide)) ?_;simp only [zAz,↓reduceIte,reduceCtorEq,Nat.reduceEqDiff];refine zLy rfl (by omega) ?_)
        all_goals exact ⟨rfl,rfl⟩
      · rw [if_neg h1] at hne
        exact absurd rfl hne
  · rw [if_neg he]
    generalize err3 xs ys=e at *
    (repeat' (first
  | (with_reducible first|refine zJw ?_|refine zGv ?_|refine zFz ?_|refine zEv ?_|refine zFy ?_|refine zJv ?_|refine zHz ?_|refine zCz ?_|refine zDw ?_|refine zCy ?_|refine zCv ?_|refine zEx ?_|refine zDz ?_|refine zCx ?_|refine zBx ?_|refine zEz ?_|refine zEy ?_|refine zBz ?_|refine zBy ?_)
  | refine zDy ?_|refine zEw rfl ?_|refine zJz ?_|refine zJx ?_
  | ((first|refine zGw rfl rfl rfl rfl rfl fun K_ hK_=>?_|refine zGx rfl rfl rfl rfl rfl fun K_ hK_=>?_);simp only [zAz,zDx,zGz,↓reduceIte,reduceCtorEq,Nat.reduceEqDiff,Bool.not_true,Bool.not_false];refine hK_ _ ?_;clear hK_ K_)
  | refine zDv (by decide) ?_
  | ((try first|refine zKx rfl rfl rfl ?_|refine zIv rfl rfl ?_|refine zKw rfl rfl rfl ?_|refine zJy rfl rfl ?_);(refine zIw fun Q_ hQ_=>?_;simp (disch:=first|omega|(simp only [List.length_cons,List.length_nil,List.length_append];omega)) only [bb,bp,zLx,↓reduceIte,reduceCtorEq,Nat.reduceEqDiff,Nat.reduceLT,Nat.reduceLeDiff,Nat.reduceAdd,Nat.reduceMul,Nat.reduceSub,Nat.reduceBEq,Int.reduceToNat,cond_true,cond_false,eq_self,beq_self_eq_true,f1,f2,zFw wf,zGy wf,zBv wf,zFx wf,zAy wf,zAw,tEvZ13,zIy,zIz,zHv,zHw,zAv wf];first|(refine zCw (Q:=Q_) (fun hp_=>?_) (fun hp_=>?_) <;> first|(exfalso;omega)|(refine hQ_ _ _ ?_;clear hQ_ Q_))|(refine zBw (Q:=Q_) (fun hp_=>?_) (fun hp_=>?_) <;> first|(exfalso;omega)|(refine hQ_ _ _ ?_;clear hQ_ Q_))|(refine hQ_ _ _ ?_;clear hQ_ Q_)|(refine zQv (cst _ _ (by first|omega|(simp only [List.length_append,List.length_cons,List.length_nil];omega))) ?_;refine hQ_ _ _ ?_;clear hQ_ Q_)))
  | (refine zHy fun K_ hK_=>?_;simp (disch:=omega) only [zFv,zAz,zHx,↓reduceIte,reduceCtorEq,Nat.reduceEqDiff,Nat.reduceLT];refine hK_ _ ?_;clear hK_ K_)))
    all_goals (refine zKy _ _ rfl (ret2 (by decide) (by decide)) ?_;simp only [zAz,↓reduceIte,reduceCtorEq,Nat.reduceEqDiff];refine zLy rfl (by omega) ?_)
    all_goals exact ⟨rfl,rfl⟩
def madeI (xs ys:List Int) (many:Int):List Int:=if errRun xs ys many=0 then (mL (runS (bN (bitL xs)) (bitL xs).length (sq (bitL ys))) many.toNat).map (fun b=>((b.toNat:Nat):Int)) else []
theorem map_bi (bs:List Bool):(bs.map fun b=>((b.toNat:Nat):Int)).map ii=bs.map bi:=by rw [List.map_map];rfl
theorem run_any (xs ys:List Int) (many:Int) (a b:AV) (hcb:CapU 1 b) (h:H) (wf:Wf h) (hs:Sl h a 1 xs.length (xs.map ii)) (ht:Sl h b 1 ys.length (ys.map ii)) :
    ∃ v L,CapU 1 v∧Sl (X h L h.w) v 1 (madeI xs ys many).length ((madeI xs ys many).map ii)∧(om Try.prog KK).call (.fn 16 [a,b,ii many]) h = .ok (.tup [v,ii (errRun xs ys many)]) (X h L h.w):=by
  by_cases hne:errRun xs ys many=0
  · have h3:err3 xs ys=0:=by
      unfold errRun at hne
      split at hne
      · assumption
      · contradiction
    have hm : ¬ many<0 ∧ ¬ 4096<many:=by
      unfold errRun at hne
      rw [if_pos h3] at hne
      split at hne
      · contradiction
      · split at hne
        · contradiction
        · exact ⟨by assumption,by assumption⟩
    obtain ⟨⟨k1,k2⟩,k3,k4⟩:=err3_ok h3
    have hs':Sl h a 1 (bitL xs).length ((bitL xs).map bi):=by rw [zPz,← xOy k2];exact hs
    have ht':Sl h b 1 (bitL ys).length ((bitL ys).map bi):=by rw [zPz,← xOy k3];exact ht
    obtain ⟨L,hL,e⟩:=runOK (bitL xs) (bitL ys) (by rw [zPz];exact k1) (by rw [zPz,zPz];exact k4) many.toNat (by omega) a b h wf hs' ht' hcb xs ys (zPz xs).symm (xOy k2) (zPz ys).symm (xOy k3) h3
    rw [show ((many.toNat:Nat):Int)=many from by omega] at e
    refine ⟨_,L,capu_some (Nat.le_refl _),?_,by rw [hne];exact e⟩
    unfold madeI
    rw [if_pos hne,map_bi,List.length_map,xCz]
    exact Sl.new wf (by rw [List.length_map,xCz,Nat.mul_one]) hL
  · refine ⟨.nils,[],capd_nils.capu 1,?_,by rw [X_self];exact runErr xs ys many a b h wf hs ht hne⟩
    unfold madeI
    rw [if_neg hne]
    exact Sl.nil _ _
end Go.Proofs.Ytmincoafjnnkpaa
end

section
namespace Go.Proofs.Ytmincoafjnnkpaa
open Go.Ev
set_option maxRecDepth 100000
set_option linter.unusedSimpArgs false
set_option linter.unusedVariables false
set_option maxHeartbeats 2000000
theorem tEvZ17 :type_of% (And.intro (And.intro (And.intro (And.intro (And.intro (And.intro (And.intro (@ySz) (@yRv)) (And.intro (@yRw) (@yRx))) (And.intro (And.intro (@yRy) (@yRz)) (And.intro (@ia_2) (And.intro (@ia_3) (@ia_4))))) (And.intro (And.intro (And.intro (@ia_5) (@yQv)) (And.intro (@yQw) (@yQx))) (And.intro (And.intro (@yQy) (@yQz)) (And.intro (@yPv) (And.intro (@zSx) (@yPw)))))) (And.intro (And.intro (And.intro (And.intro (@yPx) (@yPy)) (And.intro (@yPz) (@yOv))) (And.intro (And.intro (@yOw) (@yOx)) (And.intro (@yOy) (And.intro (@yOz) (@sz_2))))) (And.intro (And.intro (And.intro (@sz_3) (@sz_4)) (And.intro (@sz_5) (And.intro (@zZv) (@zZw)))) (And.intro (And.intro (@zZx) (@zZy)) (And.intro (@zZz) (And.intro (@zYv) (@zSz))))))) (And.intro (And.intro (And.intro (And.intro (And.intro (@zYw) (@zYx)) (And.intro (@zYy) (@zRy))) (And.intro (And.intro (@zYz) (@zXv)) (And.intro (@zXw) (And.intro (@zXx) (@zXy))))) (And.intro (And.intro (And.intro (@ze_2) (@ze_3)) (And.intro (@ze_4) (And.intro (@ze_5) (@zXz)))) (And.intro (And.intro (@zWv) (@zWw)) (And.intro (@zWx) (And.intro (@zWy) (@zWz)))))) (And.intro (And.intro (And.intro (And.intro (@zVv) (@zVw)) (And.intro (@zVx) (@zVy))) (And.intro (And.intro (@zVz) (@zUv)) (And.intro (@zUw) (And.intro (@zUx) (@zUy))))) (And.intro (And.intro (And.intro (@zNv) (@zNw)) (And.intro (@zNx) (And.intro (@zNy) (@zNz)))) (And.intro (And.intro (@zMv) (@zMw)) (And.intro (@zMx) (And.intro (@zMy) (@yNx)))))))) (And.intro (And.intro (And.intro (And.intro (And.intro (And.intro (@yNy) (@yNz)) (And.intro (@yMv) (@yMw))) (And.intro (And.intro (@yMx) (@yMy)) (And.intro (@yMz) (And.intro (@yLv) (@yLw))))) (And.intro (And.intro (And.intro (@yLx) (@yLy)) (And.intro (@yLz) (@yKv))) (And.intro (And.intro (@yKw) (@yKx)) (And.intro (@yKy) (And.intro (@yKz) (@yJv)))))) (And.intro (And.intro (And.intro (And.intro (@yJw) (@yJx)) (And.intro (@yJy) (@yJz))) (And.intro (And.intro (@yIv) (@yIw)) (And.intro (@yIx) (And.intro (@yIy) (@yIz))))) (And.intro (And.intro (And.intro (@yHv) (@yHw)) (And.intro (@yHx) (And.intro (@yHy) (@yHz)))) (And.intro (And.intro (@yGv) (@yGw)) (And.intro (@yGx) (And.intro (@yGy) (@yGz))))))) (And.intro (And.intro (And.intro (And.intro (And.intro (@yFv) (@yFw)) (And.intro (@yFx) (@yFy))) (And.intro (And.intro (@yFz) (@yEv)) (And.intro (@yEw) (And.intro (@yEx) (@yEy))))) (And.intro (And.intro (And.intro (@yEz) (@yDv)) (And.intro (@yDw) (And.intro (@yDx) (@yDy)))) (And.intro (And.intro (@zSw) (@yDz)) (And.intro (@yCv) (And.intro (@yCw) (@yCx)))))) (And.intro (And.intro (And.intro (And.intro (@yCy) (@yCz)) (And.intro (@yBv) (@yBw))) (And.intro (And.intro (@yBx) (@yBy)) (And.intro (@yBz) (And.intro (@yAv) (@yAw))))) (And.intro (And.intro (And.intro (@yAx) (@yAy)) (And.intro (@zPw) (And.intro (@zTx) (@zTy)))) (And.intro (And.intro (@zSy) (@zTz)) (And.intro (@zSv) (And.intro (@yNv) (@yNw))))))))):=And.intro (And.intro (And.intro (And.intro (And.intro (And.intro (And.intro (@ySz) (@yRv)) (And.intro (@yRw) (@yRx))) (And.intro (And.intro (@yRy) (@yRz)) (And.intro (@ia_2) (And.intro (@ia_3) (@ia_4))))) (And.intro (And.intro (And.intro (@ia_5) (@yQv)) (And.intro (@yQw) (@yQx))) (And.intro (And.intro (@yQy) (@yQz)) (And.intro (@yPv) (And.intro (@zSx) (@yPw)))))) (And.intro (And.intro (And.intro (And.intro (@yPx) (@yPy)) (And.intro (@yPz) (@yOv))) (And.intro (And.intro (@yOw) (@yOx)) (And.intro (@yOy) (And.intro (@yOz) (@sz_2))))) (And.intro (And.intro (And.intro (@sz_3) (@sz_4)) (And.intro (@sz_5) (And.intro (@zZv) (@zZw)))) (And.intro (And.intro (@zZx) (@zZy)) (And.intro (@zZz) (And.intro (@zYv) (@zSz))))))) (And.intro (And.intro (And.intro (And.intro (And.intro (@zYw) (@zYx)) (And.intro (@zYy) (@zRy))) (And.intro (And.intro (@zYz) (@zXv)) (And.intro (@zXw) (And.intro (@zXx) (@zXy))))) (And.intro (And.intro (And.intro (@ze_2) (@ze_3)) (And.intro (@ze_4) (And.intro (@ze_5) (@zXz)))) (And.intro (And.intro (@zWv) (@zWw)) (And.intro (@zWx) (And.intro (@zWy) (@zWz)))))) (And.intro (And.intro (And.intro (And.intro (@zVv) (@zVw)) (And.intro (@zVx) (@zVy))) (And.intro (And.intro (@zVz) (@zUv)) (And.intro (@zUw) (And.intro (@zUx) (@zUy))))) (And.intro (And.intro (And.intro (@zNv) (@zNw)) (And.intro (@zNx) (And.intro (@zNy) (@zNz)))) (And.intro (And.intro (@zMv) (@zMw)) (And.intro (@zMx) (And.intro (@zMy) (@yNx)))))))) (And.intro (And.intro (And.intro (And.intro (And.intro (And.intro (@yNy) (@yNz)) (And.intro (@yMv) (@yMw))) (And.intro (And.intro (@yMx) (@yMy)) (And.intro (@yMz) (And.intro (@yLv) (@yLw))))) (And.intro (And.intro (And.intro (@yLx) (@yLy)) (And.intro (@yLz) (@yKv))) (And.intro (And.intro (@yKw) (@yKx)) (And.intro (@yKy) (And.intro (@yKz) (@yJv)))))) (And.intro (And.intro (And.intro (And.intro (@yJw) (@yJx)) (And.intro (@yJy) (@yJz))) (And.intro (And.intro (@yIv) (@yIw)) (And.intro (@yIx) (And.intro (@yIy) (@yIz))))) (And.intro (And.intro (And.intro (@yHv) (@yHw)) (And.intro (@yHx) (And.intro (@yHy) (@yHz)))) (And.intro (And.intro (@yGv) (@yGw)) (And.intro (@yGx) (And.intro (@yGy) (@yGz))))))) (And.intro (And.intro (And.intro (And.intro (And.intro (@yFv) (@yFw)) (And.intro (@yFx) (@yFy))) (And.intro (And.intro (@yFz) (@yEv)) (And.intro (@yEw) (And.intro (@yEx) (@yEy))))) (And.intro (And.intro (And.intro (@yEz) (@yDv)) (And.intro (@yDw) (And.intro (@yDx) (@yDy)))) (And.intro (And.intro (@zSw) (@yDz)) (And.intro (@yCv) (And.intro (@yCw) (@yCx)))))) (And.intro (And.intro (And.intro (And.intro (@yCy) (@yCz)) (And.intro (@yBv) (@yBw))) (And.intro (And.intro (@yBx) (@yBy)) (And.intro (@yBz) (And.intro (@yAv) (@yAw))))) (And.intro (And.intro (And.intro (@yAx) (@yAy)) (And.intro (@zPw) (And.intro (@zTx) (@zTy)))) (And.intro (And.intro (@zSy) (@zTz)) (And.intro (@zSv) (And.intro (@yNv) (@yNw))))))))
theorem errB_bits {xs:List Int} (h:errB xs=0):xs.length≤128∧xs.map ii=(bitL xs).map bi:=⟨(errB_ok.1 h).1,xOy (errB_ok.1 h).2⟩
def tapI (T L:Nat):List Int:=(bitsL T L).map (fun b=>((b.toNat:Nat):Int))
theorem fine (xs:List Int) (a:AV) (h:H) (wf:Wf h) (hs:Sl h a 1 xs.length (xs.map ii)):(om Try.prog KK).call (.fn 37 [a]) h = .ok (.bool (decide (errB xs=0))) h:=by
  obtain ⟨f1,f2⟩:=yXy hs
  have c1 : ∀ (l:List AO) (w:Nat),w≤h.clock+l.length→(om Try.prog KK).call (.fn 19 [a]) (X h l w) = .ok (ii (errB xs)) (X h l w):=fun l w hw=>rcheckBits xs a _ (wf.X hw) (hs.up wf l w)
  generalize errB xs=e at *
  refine ySv (zLv (fn:=Try.f37) Try.func37 rfl rfl rfl rfl rfl ?_)
  simp only [zLx]
  (repeat' (first
  | (with_reducible first|refine zJw ?_|refine zGv ?_|refine zFz ?_|refine zEv ?_|refine zFy ?_|refine zJv ?_|refine zHz ?_|refine zCz ?_|refine zDw ?_|refine zCy ?_|refine zCv ?_|refine zEx ?_|refine zDz ?_|refine zCx ?_|refine zBx ?_|refine zEz ?_|refine zEy ?_|refine zBz ?_|refine zBy ?_)
  | refine zDy ?_|refine zEw rfl ?_|refine zJz ?_|refine zJx ?_
  | ((first|refine zGw rfl rfl rfl rfl rfl fun K_ hK_=>?_|refine zGx rfl rfl rfl rfl rfl fun K_ hK_=>?_);simp only [zAz,zDx,zGz,↓reduceIte,reduceCtorEq,Nat.reduceEqDiff,Bool.not_true,Bool.not_false];refine hK_ _ ?_;clear hK_ K_)
  | refine zDv (by decide) ?_
  | ((try first|refine zKx rfl rfl rfl ?_|refine zIv rfl rfl ?_|refine zKw rfl rfl rfl ?_|refine zJy rfl rfl ?_);(refine zIw fun Q_ hQ_=>?_;simp (disch:=first|omega|(simp only [List.length_cons,List.length_nil,List.length_append];omega)) only [bb,bp,zLx,↓reduceIte,reduceCtorEq,Nat.reduceEqDiff,Nat.reduceLT,Nat.reduceLeDiff,Nat.reduceAdd,Nat.reduceMul,Nat.reduceSub,Nat.reduceBEq,Int.reduceToNat,cond_true,cond_false,eq_self,beq_self_eq_true,f1,f2,zFw wf,zGy wf,zBv wf,zFx wf,zAy wf,zAw,tEvZ17,zIy,zIz,zHv,zHw,zAv wf];first|(refine zCw (Q:=Q_) (fun hp_=>?_) (fun hp_=>?_) <;> first|(exfalso;omega)|(refine hQ_ _ _ ?_;clear hQ_ Q_))|(refine zBw (Q:=Q_) (fun hp_=>?_) (fun hp_=>?_) <;> first|(exfalso;omega)|(refine hQ_ _ _ ?_;clear hQ_ Q_))|(refine hQ_ _ _ ?_;clear hQ_ Q_)|(refine zQv (c1 _ _ (by first|omega|(simp only [List.length_append,List.length_cons,List.length_nil];omega))) ?_;refine hQ_ _ _ ?_;clear hQ_ Q_)))
  | (refine zHy fun K_ hK_=>?_;simp (disch:=omega) only [zFv,zAz,zHx,↓reduceIte,reduceCtorEq,Nat.reduceEqDiff,Nat.reduceLT];refine hK_ _ ?_;clear hK_ K_)))
  all_goals (refine zKy _ _ rfl (ret1 (by decide)) ?_;simp only [zAz,↓reduceIte,reduceCtorEq,Nat.reduceEqDiff];refine zLy rfl (by omega) ?_)
  all_goals exact ⟨by simp [*],rfl⟩
end Go.Proofs.Ytmincoafjnnkpaa
end

section
namespace Go.Proofs.Ytmincoafjnnkpaa
open Go.Ev
set_option maxRecDepth 100000
set_option linter.unusedSimpArgs false
set_option linter.unusedVariables false
set_option maxHeartbeats 2000000
def addI (xs ys:List Int):List Int:=(List.range (min xs.length ys.length)).map fun i=>((((sq (bitL xs) i ^^ sq (bitL ys) i).toNat:Nat)):Int)
def addN (xs ys:List Int) (n:Nat):List AV:=(List.range n).map fun i=>bi (sq (bitL xs) i ^^ sq (bitL ys) i)
end Go.Proofs.Ytmincoafjnnkpaa
end

section
namespace Go.Proofs.Ytmincoafjnnkpaa
open Go.Ev
set_option maxRecDepth 100000
set_option linter.unusedSimpArgs false
set_option linter.unusedVariables false
set_option maxHeartbeats 2000000
theorem bitL_ints (bs:List Bool):bitL (bs.map fun b=>((b.toNat:Nat):Int))=bs:=by
  unfold bitL
  rw [List.map_map]
  have:((fun x:Int=>x == 1) ∘ fun b:Bool=>((b.toNat:Nat):Int))=id:=by
    funext b;cases b <;> rfl
  rw [this,List.map_id]
theorem good_ints (bs:List Bool):good (bs.map fun b=>((b.toNat:Nat):Int))=true:=by
  unfold good
  rw [List.all_map]
  refine List.all_eq_true.2 fun b _=>?_
  cases b <;> rfl
theorem conv_u8 {n:Int} (hn:0≤n∧n≤255):convE Try.prog 5 3 (.int .u8 n)=some (.int .i64 n):=by
  rw [c_int Try.underlying5 Try.underlying3]
  rw [xOv _ (by omega) (by omega)]
end Go.Proofs.Ytmincoafjnnkpaa
end

section
namespace Go.Ev
def sm :Nat→(Nat→Int)→Int
  | 0,_=>0
  | n+1,f=>sm n f+f n
theorem zQw {f g:Nat→Int} : ∀ {n:Nat},(∀ i,i<n→f i=g i)→sm n f=sm n g
  | 0,_=>rfl
  | n+1,h=>by
    show sm n f+f n=sm n g+g n
    rw [zQw (n:=n) (fun i hi=>h i (by omega)),h n (by omega)]
theorem sm_add (f:Nat→Int) (m:Nat) : ∀ n,sm (m+n) f=sm m f+sm n (fun i=>f (m+i))
  | 0=>by show sm m f=sm m f+0;omega
  | n+1=>by
    show sm (m+n) f+f (m+n)=sm m f+(sm n (fun i=>f (m+i))+f (m+n))
    rw [sm_add f m n];omega
theorem sm_mul (c:Int) (f:Nat→Int) : ∀ n,sm n (fun i=>c * f i)=c * sm n f
  | 0=>by show (0:Int)=c * 0;rw [Int.mul_zero]
  | n+1=>by
    show sm n (fun i=>c * f i)+c * f n=c * (sm n f+f n)
    rw [sm_mul c f n,Int.mul_add]
theorem sm_mul_r (c:Int) (f:Nat→Int) (n:Nat):sm n (fun i=>f i * c)=sm n f * c:=by
  rw [Int.mul_comm,← sm_mul]
  exact zQw fun i _=>Int.mul_comm _ _
theorem sm_plus (f g:Nat→Int) : ∀ n,sm n (fun i=>f i+g i)=sm n f+sm n g
  | 0=>rfl
  | n+1=>by
    show sm n (fun i=>f i+g i)+(f n+g n)=(sm n f+f n)+(sm n g+g n)
    rw [sm_plus f g n];omega
theorem sm_zero : ∀ n,sm n (fun _=>0)=0
  | 0=>rfl
  | n+1=>by show sm n (fun _=>0)+0=0;rw [sm_zero n];rfl
theorem sm_swap (g:Nat→Nat→Int) (m:Nat) : ∀ n,sm n (fun i=>sm m (g i))=sm m (fun k=>sm n (fun i=>g i k))
  | 0=>(sm_zero m).symm
  | n+1=>by
    show sm n (fun i=>sm m (g i))+sm m (g n)=sm m (fun k=>sm n (fun i=>g i k)+g n k)
    rw [sm_swap g m n,sm_plus]
theorem sm_rev (f:Nat→Int) : ∀ n,sm n (fun i=>f (n - 1 - i))=sm n f
  | 0=>rfl
  | n+1=>by
    rw [show n+1=1+n by omega,sm_add,show 1+n=n+1 by omega]
    have e1:sm 1 (fun i=>f (n+1 - 1 - i))=f n:=by show (0:Int)+f (n+1 - 1 - 0)=f n;rw [Int.zero_add];rfl
    have e2:sm n (fun i=>(fun i=>f (n+1 - 1 - i)) (1+i))=sm n (fun i=>f (n - 1 - i)):=zQw fun i hi=>by
      show f (n+1 - 1 - (1+i))=f (n - 1 - i)
      congr 1;omega
    rw [e1,e2,sm_rev f n]
    show f n+sm n f=sm n f+f n
    omega
def cy (n i k:Nat):Nat:=if i+k<n then i+k else i+k - n
theorem cy_mod {n i k:Nat} (hi:i<n) (hk:k<n):(i+k) % n=cy n i k:=by
  unfold cy
  split
  · exact Nat.mod_eq_of_lt (by assumption)
  · rw [Nat.mod_eq_sub_mod (by omega),Nat.mod_eq_of_lt (by omega)]
theorem cy_lt {n i k:Nat} (hi:i<n) (hk:k<n):cy n i k<n:=by unfold cy;split <;> omega
theorem sm_turn (g:Nat→Int) {n t:Nat} (ht:t<n):sm n (fun i=>g (cy n i t))=sm n g:=by
  have e1:sm ((n - t)+t) (fun i=>g (cy n i t))=sm (n - t) (fun i=>g (t+i))+sm t g:=by
    rw [sm_add]
    congr 1
    · exact zQw fun i hi=>by show g (cy n i t)=g (t+i);unfold cy;rw [if_pos (by omega),Nat.add_comm]
    · exact zQw fun i hi=>by show g (cy n (n - t+i) t)=g i;unfold cy;rw [if_neg (by omega)];congr 1;omega
  have e2:sm (t+(n - t)) g=sm t g+sm (n - t) (fun i=>g (t+i)):=sm_add g t (n - t)
  rw [show n - t+t=n by omega] at e1
  rw [show t+(n - t)=n by omega] at e2
  omega
def ee (b:Bool):Int:=if b then -1 else 1
theorem ee_xor (a b:Bool):ee (a ^^ b)=ee a * ee b:=by cases a <;> cases b <;> rfl
theorem ee_cnt (f:Nat→Bool) : ∀ n:Nat,(n:Int) - 2 * (cnt n f:Int)=sm n (fun i=>ee (f i))
  | 0=>rfl
  | n+1=>by
    have:=ee_cnt f n
    show ((n+1:Nat):Int) - 2 * ((cnt n f+(f n).toNat:Nat):Int)=sm n (fun i=>ee (f i))+ee (f n)
    rw [← this]
    cases f n <;> simp [ee] <;> omega
def sp (n:Nat) (s:Nat→Bool) (k:Nat):Int:=sm n (fun i=>ee (s i ^^ s (cy n i k)))
theorem sp_cnt (n:Nat) (s:Nat→Bool) (k:Nat):sp n s k=(n:Int) - 2 * (cnt n (fun i=>s i ^^ s (cy n i k)):Int):=(ee_cnt _ n).symm
theorem sp_zero (n:Nat) (s:Nat→Bool):sp n s 0=n:=by
  rw [sp_cnt]
  have:cnt n (fun i=>s i ^^ s (cy n i 0))=0:=by
    have e : ∀ m,m≤n→cnt m (fun i=>s i ^^ s (cy n i 0))=0:=fun m=>by
      induction m with
      | zero=>intro _;rfl
      | succ m ih=>
        intro hm
        show cnt m _+(s m ^^ s (cy n m 0)).toNat=0
        rw [ih (by omega),show cy n m 0=m from if_pos (by omega)]
        cases s m <;> rfl
    exact e n (Nat.le_refl n)
  rw [this];omega
theorem sp_congr {n:Nat} {s t:Nat→Bool} {k:Nat} (hk:k<n) (h : ∀ i,i<n→s i=t i):sp n s k=sp n t k:=
  zQw fun i hi=>by rw [h i hi,h _ (cy_lt hi hk)]
theorem sp_back {n:Nat} (s:Nat→Bool) {k:Nat} (h0:0<k) (hk:k<n):sp n s k=sp n s (n - k):=by
  have e:=sm_turn (fun j=>ee (s j ^^ s (cy n j (n - k)))) hk
  show sm n _=sm n _
  rw [← e]
  refine zQw fun i hi=>?_
  show ee (s i ^^ s (cy n i k))=ee (s (cy n i k) ^^ s (cy n (cy n i k) (n - k)))
  have:cy n (cy n i k) (n - k)=i:=by unfold cy;split <;> split <;> omega
  rw [this,Bool.xor_comm]
theorem sp_turn {n t:Nat} (s:Nat→Bool) {k:Nat} (ht:t<n) (hk:k<n):sp n (fun i=>s (cy n i t)) k=sp n s k:=by
  have e:=sm_turn (fun j=>ee (s j ^^ s (cy n j k))) ht
  show sm n _=sm n _
  rw [← e]
  refine zQw fun i hi=>?_
  show ee (s (cy n i t) ^^ s (cy n (cy n i k) t))=ee (s (cy n i t) ^^ s (cy n (cy n i t) k))
  have:cy n (cy n i k) t=cy n (cy n i t) k:=by unfold cy;split <;> split <;> split <;> (try split) <;> omega
  rw [this]
theorem sp_rev {n:Nat} (s:Nat→Bool) {k:Nat} (hk:k<n):sp n (fun i=>s (n - 1 - i)) k=sp n s k:=by
  have e:=sm_rev (fun j=>ee (s j ^^ s (n - 1 - cy n (n - 1 - j) k))) n
  have e1:sp n (fun i=>s (n - 1 - i)) k=sm n (fun i=>(fun j=>ee (s j ^^ s (n - 1 - cy n (n - 1 - j) k))) (n - 1 - i)):=zQw fun i hi=>by
    show ee (s (n - 1 - i) ^^ s (n - 1 - cy n i k))=ee (s (n - 1 - i) ^^ s (n - 1 - cy n (n - 1 - (n - 1 - i)) k))
    rw [show n - 1 - (n - 1 - i)=i by omega]
  rw [e1,e]
  by_cases h0:k=0
  · subst h0
    exact zQw fun i hi=>by
      rw [show n - 1 - cy n (n - 1 - i) 0=cy n i 0 from by unfold cy;split <;> split <;> omega]
  · rw [sp_back s (by omega) hk]
    exact zQw fun i hi=>by
      rw [show n - 1 - cy n (n - 1 - i) k=cy n i (n - k) from by unfold cy;split <;> split <;> omega]
theorem sp_not {n:Nat} (s:Nat→Bool) (k:Nat):sp n (fun i=>!s i) k=sp n s k:=
  zQw fun i _=>by
    show ee (!s i ^^ !s (cy n i k))=ee (s i ^^ s (cy n i k))
    cases s i <;> cases s (cy n i k) <;> rfl
theorem sp_all {n:Nat} (s:Nat→Bool):sm n (sp n s)=sm n (fun i=>ee (s i)) * sm n (fun i=>ee (s i)):=by
  have e1:sm n (sp n s)=sm n (fun i=>sm n (fun k=>ee (s i) * ee (s (cy n i k)))):=by
    rw [sm_swap]
    refine zQw fun k _=>?_
    exact zQw fun i _=>ee_xor _ _
  rw [e1]
  have e2:sm n (fun i=>sm n (fun k=>ee (s i) * ee (s (cy n i k))))=sm n (fun i=>ee (s i) * sm n (fun j=>ee (s j))):=zQw fun i hi=>by
    rw [sm_mul]
    congr 1
    have:=sm_turn (fun j=>ee (s j)) hi
    rw [← this]
    refine zQw fun k hk=>?_
    rw [show cy n i k=cy n k i from by unfold cy;rw [Nat.add_comm]]
  rw [e2,sm_mul_r]
theorem turn_bits {n k:Nat} (bs:List Bool) (hl:bs.length=n) (hn:n≤128) (hk:k<n) {i:Nat} (hi:i<128):(bN bs ^^^ (((bN bs >>> k) ^^^ ((bN bs <<< (n - k)) % 2 ^ 128)) % 2 ^ n)).testBit i=(decide (i<n) && (bs.getD i false ^^ bs.getD (cy n i k) false)):=by
  have hout : ∀ j,n≤j→bs.getD j false=false:=fun j hj=>by rw [List.getD_eq_getElem?_getD,List.getElem?_eq_none (by omega)];rfl
  rw [Nat.testBit_xor,Nat.testBit_mod_two_pow,Nat.testBit_xor,Nat.testBit_shiftRight,Nat.testBit_mod_two_pow,Nat.testBit_shiftLeft,bN_bit,bN_bit,bN_bit]
  by_cases h1:i<n
  · rw [decide_eq_true h1,Bool.true_and,Bool.true_and]
    congr 1
    unfold cy
    by_cases h2:i+k<n
    · rw [if_pos h2,decide_eq_false (by omega : ¬ i ≥ n - k),Nat.add_comm]
      simp
    · rw [if_neg h2,decide_eq_true (by omega:i ≥ n - k),decide_eq_true hi,hout (k+i) (by omega)]
      simp
      rw [show i - (n - k)=i+k - n by omega]
  · rw [decide_eq_false h1,hout i (by omega)]
    rfl
theorem turn_cnt {n k:Nat} (bs:List Bool) (hl:bs.length=n) (hn:n≤128) (hk:k<n):cnt 128 (bN bs ^^^ (((bN bs >>> k) ^^^ ((bN bs <<< (n - k)) % 2 ^ 128)) % 2 ^ n)).testBit=cnt n (fun i=>bs.getD i false ^^ bs.getD (cy n i k) false):=by
  have e:cnt 128 (bN bs ^^^ (((bN bs >>> k) ^^^ ((bN bs <<< (n - k)) % 2 ^ 128)) % 2 ^ n)).testBit=cnt 128 (fun i=>decide (i<n) && (bs.getD i false ^^ bs.getD (cy n i k) false)):=xFx fun i hi=>turn_bits bs hl hn hk hi
  rw [e,show 128=n+(128 - n) by omega,yYx]
  have e1:cnt n (fun i=>decide (i<n) && (bs.getD i false ^^ bs.getD (cy n i k) false))=cnt n (fun i=>bs.getD i false ^^ bs.getD (cy n i k) false):=xFx fun i hi=>by rw [decide_eq_true hi];rfl
  have e2 : ∀ m,cnt m (fun i=>decide (n+i<n) && (bs.getD (n+i) false ^^ bs.getD (cy n (n+i) k) false))=0:=fun m=>by
    induction m with
    | zero=>rfl
    | succ m ih=>
      show cnt m _+(decide (n+m<n) && _).toNat=0
      rw [ih,decide_eq_false (by omega : ¬ n+m<n)];rfl
  rw [e1,e2,Nat.add_zero]
end Go.Ev
end

section
namespace Go.Proofs.Ytmincoafjnnkpaa
open Go.Ev
set_option maxRecDepth 100000
set_option linter.unusedSimpArgs false
set_option linter.unusedVariables false
set_option maxHeartbeats 2000000
theorem tEvZ26 :type_of% (And.intro (And.intro (And.intro (And.intro (And.intro (And.intro (And.intro (@ySz) (@yRv)) (And.intro (@yRw) (@yRx))) (And.intro (And.intro (@yRy) (@yRz)) (And.intro (@ia_2) (And.intro (@ia_3) (@ia_4))))) (And.intro (And.intro (And.intro (@ia_5) (@yQv)) (And.intro (@yQw) (@yQx))) (And.intro (And.intro (@yQy) (@yQz)) (And.intro (@yPv) (And.intro (@zSx) (@yPw)))))) (And.intro (And.intro (And.intro (And.intro (@yPx) (@yPy)) (And.intro (@yPz) (@yOv))) (And.intro (And.intro (@yOw) (@yOx)) (And.intro (@yOy) (And.intro (@yOz) (@sz_2))))) (And.intro (And.intro (And.intro (@sz_3) (@sz_4)) (And.intro (@sz_5) (And.intro (@zZv) (@zZw)))) (And.intro (And.intro (@zZx) (@zZy)) (And.intro (@zZz) (And.intro (@zYv) (@zSz))))))) (And.intro (And.intro (And.intro (And.intro (And.intro (@zYw) (@zYx)) (And.intro (@zYy) (@zRy))) (And.intro (And.intro (@zYz) (@zXv)) (And.intro (@zXw) (And.intro (@zXx) (@zXy))))) (And.intro (And.intro (And.intro (@ze_2) (@ze_3)) (And.intro (@ze_4) (And.intro (@ze_5) (@zXz)))) (And.intro (And.intro (@zWv) (@zWw)) (And.intro (@zWx) (And.intro (@zWy) (@zWz)))))) (And.intro (And.intro (And.intro (And.intro (@zVv) (@zVw)) (And.intro (@zVx) (@zVy))) (And.intro (And.intro (@zVz) (@zUv)) (And.intro (@zUw) (And.intro (@zUx) (@zUy))))) (And.intro (And.intro (And.intro (@zNv) (@zNw)) (And.intro (@zNx) (And.intro (@zNy) (@zNz)))) (And.intro (And.intro (@zMv) (@zMw)) (And.intro (@zMx) (And.intro (@zMy) (@yNx)))))))) (And.intro (And.intro (And.intro (And.intro (And.intro (And.intro (@yNy) (@yNz)) (And.intro (@yMv) (@yMw))) (And.intro (And.intro (@yMx) (@yMy)) (And.intro (@yMz) (And.intro (@yLv) (@yLw))))) (And.intro (And.intro (And.intro (@yLx) (@yLy)) (And.intro (@yLz) (@yKv))) (And.intro (And.intro (@yKw) (@yKx)) (And.intro (@yKy) (And.intro (@yKz) (@yJv)))))) (And.intro (And.intro (And.intro (And.intro (@yJw) (@yJx)) (And.intro (@yJy) (@yJz))) (And.intro (And.intro (@yIv) (@yIw)) (And.intro (@yIx) (And.intro (@yIy) (@yIz))))) (And.intro (And.intro (And.intro (@yHv) (@yHw)) (And.intro (@yHx) (And.intro (@yHy) (@yHz)))) (And.intro (And.intro (@yGv) (@yGw)) (And.intro (@yGx) (And.intro (@yGy) (@yGz))))))) (And.intro (And.intro (And.intro (And.intro (And.intro (@yFv) (@yFw)) (And.intro (@yFx) (@yFy))) (And.intro (And.intro (@yFz) (@yEv)) (And.intro (@yEw) (And.intro (@yEx) (@yEy))))) (And.intro (And.intro (And.intro (@yEz) (@yDv)) (And.intro (@yDw) (And.intro (@yDx) (@yDy)))) (And.intro (And.intro (@zSw) (@yDz)) (And.intro (@yCv) (And.intro (@yCw) (@yCx)))))) (And.intro (And.intro (And.intro (And.intro (@yCy) (@yCz)) (And.intro (@yBv) (@yBw))) (And.intro (And.intro (@yBx) (@yBy)) (And.intro (@yBz) (And.intro (@yAv) (@yAw))))) (And.intro (And.intro (And.intro (@yAx) (@yAy)) (And.intro (@zPw) (And.intro (@zTx) (@zTy)))) (And.intro (And.intro (@zSy) (@zTz)) (And.intro (@zSv) (And.intro (@yNv) (@yNw))))))))):=And.intro (And.intro (And.intro (And.intro (And.intro (And.intro (And.intro (@ySz) (@yRv)) (And.intro (@yRw) (@yRx))) (And.intro (And.intro (@yRy) (@yRz)) (And.intro (@ia_2) (And.intro (@ia_3) (@ia_4))))) (And.intro (And.intro (And.intro (@ia_5) (@yQv)) (And.intro (@yQw) (@yQx))) (And.intro (And.intro (@yQy) (@yQz)) (And.intro (@yPv) (And.intro (@zSx) (@yPw)))))) (And.intro (And.intro (And.intro (And.intro (@yPx) (@yPy)) (And.intro (@yPz) (@yOv))) (And.intro (And.intro (@yOw) (@yOx)) (And.intro (@yOy) (And.intro (@yOz) (@sz_2))))) (And.intro (And.intro (And.intro (@sz_3) (@sz_4)) (And.intro (@sz_5) (And.intro (@zZv) (@zZw)))) (And.intro (And.intro (@zZx) (@zZy)) (And.intro (@zZz) (And.intro (@zYv) (@zSz))))))) (And.intro (And.intro (And.intro (And.intro (And.intro (@zYw) (@zYx)) (And.intro (@zYy) (@zRy))) (And.intro (And.intro (@zYz) (@zXv)) (And.intro (@zXw) (And.intro (@zXx) (@zXy))))) (And.intro (And.intro (And.intro (@ze_2) (@ze_3)) (And.intro (@ze_4) (And.intro (@ze_5) (@zXz)))) (And.intro (And.intro (@zWv) (@zWw)) (And.intro (@zWx) (And.intro (@zWy) (@zWz)))))) (And.intro (And.intro (And.intro (And.intro (@zVv) (@zVw)) (And.intro (@zVx) (@zVy))) (And.intro (And.intro (@zVz) (@zUv)) (And.intro (@zUw) (And.intro (@zUx) (@zUy))))) (And.intro (And.intro (And.intro (@zNv) (@zNw)) (And.intro (@zNx) (And.intro (@zNy) (@zNz)))) (And.intro (And.intro (@zMv) (@zMw)) (And.intro (@zMx) (And.intro (@zMy) (@yNx)))))))) (And.intro (And.intro (And.intro (And.intro (And.intro (And.intro (@yNy) (@yNz)) (And.intro (@yMv) (@yMw))) (And.intro (And.intro (@yMx) (@yMy)) (And.intro (@yMz) (And.intro (@yLv) (@yLw))))) (And.intro (And.intro (And.intro (@yLx) (@yLy)) (And.intro (@yLz) (@yKv))) (And.intro (And.intro (@yKw) (@yKx)) (And.intro (@yKy) (And.intro (@yKz) (@yJv)))))) (And.intro (And.intro (And.intro (And.intro (@yJw) (@yJx)) (And.intro (@yJy) (@yJz))) (And.intro (And.intro (@yIv) (@yIw)) (And.intro (@yIx) (And.intro (@yIy) (@yIz))))) (And.intro (And.intro (And.intro (@yHv) (@yHw)) (And.intro (@yHx) (And.intro (@yHy) (@yHz)))) (And.intro (And.intro (@yGv) (@yGw)) (And.intro (@yGx) (And.intro (@yGy) (@yGz))))))) (And.intro (And.intro (And.intro (And.intro (And.intro (@yFv) (@yFw)) (And.intro (@yFx) (@yFy))) (And.intro (And.intro (@yFz) (@yEv)) (And.intro (@yEw) (And.intro (@yEx) (@yEy))))) (And.intro (And.intro (And.intro (@yEz) (@yDv)) (And.intro (@yDw) (And.intro (@yDx) (@yDy)))) (And.intro (And.intro (@zSw) (@yDz)) (And.intro (@yCv) (And.intro (@yCw) (@yCx)))))) (And.intro (And.intro (And.intro (And.intro (@yCy) (@yCz)) (And.intro (@yBv) (@yBw))) (And.intro (And.intro (@yBx) (@yBy)) (And.intro (@yBz) (And.intro (@yAv) (@yAw))))) (And.intro (And.intro (And.intro (@yAx) (@yAy)) (And.intro (@zPw) (And.intro (@zTx) (@zTy)))) (And.intro (And.intro (@zSy) (@zTz)) (And.intro (@zSv) (And.intro (@yNv) (@yNw))))))))
def spL (bs:List Bool) (m:Nat):List Int:=(List.range m).map fun k=>sp bs.length (sq bs) k
theorem spL_succ (bs:List Bool) (m:Nat):spL bs (m+1)=spL bs m++[sp bs.length (sq bs) m]:=by unfold spL;rw [List.range_succ,List.map_append];rfl
theorem xEw (bs:List Bool) (m:Nat):(spL bs m).length=m:=by unfold spL;simp
theorem spL_get (bs:List Bool) {m i:Nat} (hi:i<m):(spL bs m)[i]? = some (sp bs.length (sq bs) i):=by
  unfold spL
  rw [List.getElem?_map,List.getElem?_range hi];rfl
theorem spectrum (xs:List Int) (he:errB xs=0) (h0:0<xs.length) (a:AV) (h:H) (wf:Wf h) (hs:Sl h a 1 xs.length (xs.map ii)) :
    ∃ M:List AO,M[1]? = some (.cells (zAx ((spL (bitL xs) xs.length).map ii)) 3)∧(om Try.prog KK).call (.fn 34 [a]) h = .ok (.tup [.sl (nx h 1) 0 xs.length (some xs.length) 1,ii 0]) (X h M h.w):=by
  suffices hW:WV ((om Try.prog KK).call (.fn 34 [a]) h) fun r h'=>∃ M:List AO,M[1]? = some (.cells (zAx ((spL (bitL xs) xs.length).map ii)) 3)∧r = .tup [.sl (nx h 1) 0 xs.length (some xs.length) 1,ii 0]∧h'=X h M h.w by
    obtain ⟨r,h',e,M,h1,rfl,rfl⟩:=hW
    exact ⟨M,h1,e⟩
  obtain ⟨hx1,hx2⟩:=errB_bits he
  have hxl:=zPz xs
  have hs':Sl h a 1 (bitL xs).length ((bitL xs).map bi):=by rw [zPz,← hx2];exact hs
  have hl : ∀ h',lenE Try.prog 22 a h'=some (ii (xs.length:Int)):=fun h'=>hs.len yZz
  obtain ⟨f1,f2⟩:=yXy hs
  have c1 : ∀ (l:List AO) (w:Nat),w≤h.clock+l.length→(om Try.prog KK).call (.fn 18 [a]) (X h l w) = .ok (ii 0) (X h l w):=fun l w hw=>by rw [checkBits xs a _ (wf.X hw) (hs.up wf l w),he]
  have hN:bN (bitL xs)<2 ^ 128:=bN_lt128 (by omega)
  have hcn : ∀ k,k<xs.length→_:=fun k hk=>turn_cnt (k:=k) (bitL xs) hxl (by omega) hk
  have hsp : ∀ k,(xs.length:Int) - 2 * (cnt xs.length (fun i=>sq (bitL xs) i ^^ sq (bitL xs) (cy xs.length i k)):Int)=sp xs.length (sq (bitL xs)) k:=fun k=>(sp_cnt _ _ _).symm
  have c2 : ∀ (l:List AO) (w:Nat),w≤h.clock+l.length→(om Try.prog KK).call (.fn 53 [a]) (X h l w) = .ok (.agg (wd (bN (bitL xs)))) (X h l w):=fun l w hw=>wordsOf (bitL xs) (by omega) a _ (wf.X hw) (hs'.up wf l w)
  have ctu : ∀ k,k<xs.length → ∀ (l:List AO) (w:Nat),w≤h.clock+l.length→(om Try.prog KK).call (.fn 64 [.agg (wd (bN (bitL xs))),ii (xs.length:Int),ii (k:Int)]) (X h l w) = .ok (.agg (wd (((bN (bitL xs) >>> k) ^^^ ((bN (bitL xs) <<< (xs.length - k)) % 2 ^ 128)) % 2 ^ xs.length))) (X h l w):=fun k hk l w hw=>turned (bN (bitL xs)) xs.length k hN (by omega) hx1 _ (wf.X hw)
  have hRlt : ∀ k,((bN (bitL xs) >>> k) ^^^ ((bN (bitL xs) <<< (xs.length - k)) % 2 ^ 128)) % 2 ^ xs.length<2 ^ 128:=fun k=>Nat.lt_of_lt_of_le (Nat.mod_lt _ (Nat.two_pow_pos _)) (Nat.pow_le_pow_right (by decide) hx1)
  have hmk : ∀ l w,makeSliceE Try.prog 22 (.int .i64 (xs.length:Int)) (.int .i64 (xs.length:Int)) (X h l w) = .ok (.sl (nx h l.length) 0 xs.length (some xs.length) 1) (X h (l++[.cells (zAx (List.replicate xs.length (.int .i64 0))) 3]) w):=
    fun l w=>xNz wf yZz sz_3 el_3 (by omega) (by decide) rfl
  have hlm : ∀ h',lenE Try.prog 22 (.sl (nx h 1) 0 xs.length (some xs.length) 1) h'=some (ii (xs.length:Int)):=fun h'=>by unfold lenE;rw [yZz];rfl
  have hne : ¬ (xs.length:Int)=0:=by omega
  generalize bN (bitL xs)=N at *
  refine zLv (fn:=Try.f34) Try.func34 rfl rfl rfl rfl rfl ?_
  simp only [zLx]
  unfold wd at c2 ctu
  (repeat' (first
  | (with_reducible first|refine zJw ?_|refine zGv ?_|refine zFz ?_|refine zEv ?_|refine zFy ?_|refine zJv ?_|refine zHz ?_|refine zCz ?_|refine zDw ?_|refine zCy ?_|refine zCv ?_|refine zEx ?_|refine zDz ?_|refine zCx ?_|refine zBx ?_|refine zEz ?_|refine zEy ?_|refine zBz ?_|refine zBy ?_)
  | refine zDy ?_|refine zEw rfl ?_|refine zJz ?_|refine zJx ?_
  | ((first|refine zGw rfl rfl rfl rfl rfl fun K_ hK_=>?_|refine zGx rfl rfl rfl rfl rfl fun K_ hK_=>?_);simp only [zAz,zDx,zGz,↓reduceIte,reduceCtorEq,Nat.reduceEqDiff,Bool.not_true,Bool.not_false];refine hK_ _ ?_;clear hK_ K_)
  | refine zDv (by decide) ?_
  | ((try first|refine zKx rfl rfl rfl ?_|refine zIv rfl rfl ?_|refine zKw rfl rfl rfl ?_|refine zJy rfl rfl ?_);(refine zIw fun Q_ hQ_=>?_;simp (disch:=first|omega|(simp only [List.length_cons,List.length_nil,List.length_append];omega)) only [bb,bp,zLx,↓reduceIte,reduceCtorEq,Nat.reduceEqDiff,Nat.reduceLT,Nat.reduceLeDiff,Nat.reduceAdd,Nat.reduceMul,Nat.reduceSub,Nat.reduceBEq,Int.reduceToNat,cond_true,cond_false,eq_self,beq_self_eq_true,hl,hlm,hmk,f1,f2,zFw wf,zGy wf,zBv wf,zFx wf,zAy wf,zAw,tEvZ26,zIy,zIz,zHv,zHw,zAv wf];first|(refine zCw (Q:=Q_) (fun hp_=>?_) (fun hp_=>?_) <;> first|(exfalso;omega)|(refine hQ_ _ _ ?_;clear hQ_ Q_))|(refine zBw (Q:=Q_) (fun hp_=>?_) (fun hp_=>?_) <;> first|(exfalso;omega)|(refine hQ_ _ _ ?_;clear hQ_ Q_))|(refine hQ_ _ _ ?_;clear hQ_ Q_)|(refine zQv (c1 _ _ (by first|omega|(simp only [List.length_append,List.length_cons,List.length_nil];omega))) ?_;refine hQ_ _ _ ?_;clear hQ_ Q_)|(refine zQv (c2 _ _ (by first|omega|(simp only [List.length_append,List.length_cons,List.length_nil];omega))) ?_;refine hQ_ _ _ ?_;clear hQ_ Q_)))
  | (refine zHy fun K_ hK_=>?_;simp (disch:=omega) only [zFv,zAz,zHx,↓reduceIte,reduceCtorEq,Nat.reduceEqDiff,Nat.reduceLT];refine hK_ _ ?_;clear hK_ K_)))
  refine zQx (α:=Nat) (fun (i:Nat) f d h'=>i≤xs.length∧f 5=ii (xs.length:Int)∧f 6 = .ptr (nx h 0) 0∧f 7 = .fn 64 [.agg [uu (N % 2 ^ 64),uu (N >>> 64)]] []∧f 8 = .sl (nx h 1) 0 xs.length (some xs.length) 1∧f 27=ii (xs.length:Int)∧f 28=ii (i:Int)∧d=[] ∧
    ∃ G w,h.clock≤w∧w≤h.clock+2+G.length∧h'=X h (.cells (zAx [uu (N % 2 ^ 64),uu (N >>> 64)]) 57 :: .cells (zAx ((spL (bitL xs) i).map ii++List.replicate (xs.length - i) (.int .i64 0))) 3 :: G) w) (fun i=>xs.length - i) ?_ (xs.length+1) 0 (by omega) ?_
  · rintro i f d h' ⟨hi,g5,g6,g7,g8,g27,g28,rfl,G,w,hw,hw2,rfl⟩
    by_cases hlt:i<xs.length
    · have ct:=ctu i hlt
      have hR:=hRlt i
      have hcni:=hcn i hlt
      have hspi:=hsp i
      rw [← hxl] at hspi
      generalize ((N >>> i) ^^^ ((N <<< (xs.length - i)) % 2 ^ 128)) % 2 ^ xs.length=R at *
      have hx3:N ^^^ R<2 ^ 128:=Nat.xor_lt_two_pow hN hR
      have c3 : ∀ (o1 o2:AO) w,w≤h.clock+(G.length+3)→(om Try.prog KK).call (.fn 65 [.sl (nx h (G.length+1+1)) 0 2 (some 2) 2]) (X h (o1 :: o2 :: (G++[.cells (zAx [uu (N % 2 ^ 64),uu (N >>> 64),uu (R % 2 ^ 64),uu (R >>> 64)]) 57])) w) = .ok (.agg [uu ((N ^^^ R) % 2 ^ 64),uu ((N ^^^ R) >>> 64)]) (X h (o1 :: o2 :: (G++[.cells (zAx [uu (N % 2 ^ 64),uu (N >>> 64),uu (R % 2 ^ 64),uu (R >>> 64)]) 57])) w):=fun o1 o2 w hw=>by
        have:=sum [N,R] (by intro K hK;simp at hK;rcases hK with rfl|rfl <;> assumption) (by simp) (.sl (nx h (G.length+1+1)) 0 2 (some 2) 2) _ (wf.X (l:=o1 :: o2 :: (G++[.cells (zAx [uu (N % 2 ^ 64),uu (N >>> 64),uu (R % 2 ^ 64),uu (R >>> 64)]) 57])) (w:=w) (by simp only [List.length_cons,List.length_append,List.length_nil];omega)) (Sl.new (k:=G.length+1+1) (e:=57) wf rfl (by rw [List.getElem?_cons_succ,List.getElem?_cons_succ,List.getElem?_append_right (Nat.le_refl _),Nat.sub_self];rfl))
        rw [xall2] at this
        exact this
      have c4 : ∀ (l:List AO) (w:Nat),w≤h.clock+l.length→(om Try.prog KK).call (.fn 66 [.agg [uu ((N ^^^ R) % 2 ^ 64),uu ((N ^^^ R) >>> 64)]]) (X h l w) = .ok (ii (cnt 128 (N ^^^ R).testBit:Nat)) (X h l w):=fun l w hw=>ones _ hx3 _ (wf.X hw)
      have hcb:=xCx (N ^^^ R).testBit 128
      have hval:(xs.length:Int) - 2 * ((cnt 128 (N ^^^ R).testBit:Nat):Int)=sp (bitL xs).length (sq (bitL xs)) i:=by
        rw [hxl,← hsp i,hcni]
      generalize cnt 128 (N ^^^ R).testBit=C at *
      have hia:indexAddrE Try.prog 22 (.sl (nx h 1) 0 xs.length (some xs.length) 1) (.int .i64 (i:Int))=some (.ptr (nx h 1) i):=by
        have ht:toNatE (.int .i64 (i:Int))=some i:=by rw [yWy (by omega),Int.toNat_natCast]
        simp only [zRv,ht,zPw,yUz hlt,Nat.zero_add,Nat.mul_one]
      have e5:List.replicate (xs.length - i) (AV.int .i64 0) = .int .i64 0 :: List.replicate (xs.length - (i+1)) (.int .i64 0):=by
        rw [show xs.length - i=xs.length - (i+1)+1 by omega,List.replicate_succ]
      have e6:(spL (bitL xs) (i+1)).map ii=(spL (bitL xs) i).map ii++[ii (sp (bitL xs).length (sq (bitL xs)) i)]:=by rw [spL_succ,List.map_append];rfl
      have hCl:((spL (bitL xs) i).map ii).length=i:=by rw [List.length_map,xEw]
      rw [e5]
      generalize hCC:(spL (bitL xs) i).map ii=CC at *
      generalize hRR:List.replicate (xs.length - (i+1)) (AV.int .i64 0)=RR at *
      generalize sp (bitL xs).length (sq (bitL xs)) i=spv at *
      have hst : ∀ (o:AO) (l:List AO) w,store1 (nx h 1) i (ii spv) (X h (o :: .cells (zAx (CC ++ .int .i64 0 :: RR)) 3 :: l) w)=some (X h (o :: .cells (zAx ((CC++[ii spv])++RR)) 3 :: l) (min (h.clock+1) w)):=fun o l w=>by
        have e:storeAt (some (.cells (zAx (CC ++ .int .i64 0 :: RR)) 3)) i (ii spv)=some (.cells (zAx ((CC++[ii spv])++RR)) 3):=by
          rw [yVx,show oneB (ii spv)=true from rfl,cond_true,if_pos (by simp;omega),← hCl,List.set_append_right _ _ (Nat.le_refl _),Nat.sub_self,List.set_cons_zero,List.append_assoc];rfl
        rw [zFx wf]
        show (match storeAt (some (.cells (zAx (CC ++ .int .i64 0 :: RR)) 3)) i (ii spv) with|some o'=>_|none=>_)=_
        rw [e]
        rfl
      (repeat' (first
  | (with_reducible first|refine zJw ?_|refine zGv ?_|refine zFz ?_|refine zEv ?_|refine zFy ?_|refine zJv ?_|refine zHz ?_|refine zCz ?_|refine zDw ?_|refine zCy ?_|refine zCv ?_|refine zEx ?_|refine zDz ?_|refine zCx ?_|refine zBx ?_|refine zEz ?_|refine zEy ?_|refine zBz ?_|refine zBy ?_)
  | refine zDy ?_|refine zEw rfl ?_|refine zJz ?_|refine zJx ?_
  | ((first|refine zGw rfl rfl rfl rfl rfl fun K_ hK_=>?_|refine zGx rfl rfl rfl rfl rfl fun K_ hK_=>?_);simp only [zAz,zDx,zGz,↓reduceIte,reduceCtorEq,Nat.reduceEqDiff,Bool.not_true,Bool.not_false];refine hK_ _ ?_;clear hK_ K_)
  | refine zDv (by decide) ?_
  | ((try first|refine zKx rfl rfl rfl ?_|refine zIv rfl rfl ?_|refine zKw rfl rfl rfl ?_|refine zJy rfl rfl ?_);(refine zIw fun Q_ hQ_=>?_;simp (disch:=first|omega|(simp only [List.length_cons,List.length_nil,List.length_append];omega)) only [bb,bp,zLx,↓reduceIte,reduceCtorEq,Nat.reduceEqDiff,Nat.reduceLT,Nat.reduceLeDiff,Nat.reduceAdd,Nat.reduceMul,Nat.reduceSub,Nat.reduceBEq,Int.reduceToNat,cond_true,cond_false,eq_self,beq_self_eq_true,hl,hlm,f1,f2,g5,g6,g7,g8,g27,g28,zFw wf,zGy wf,zBv wf,zFx wf,zAy wf,zAw,tEvZ26,zIy,zIz,zHv,zHw,zAv wf];first|(refine zCw (Q:=Q_) (fun hp_=>?_) (fun hp_=>?_) <;> first|(exfalso;omega)|(refine hQ_ _ _ ?_;clear hQ_ Q_))|(refine zBw (Q:=Q_) (fun hp_=>?_) (fun hp_=>?_) <;> first|(exfalso;omega)|(refine hQ_ _ _ ?_;clear hQ_ Q_))|(refine hQ_ _ _ ?_;clear hQ_ Q_)))
  | (refine zHy fun K_ hK_=>?_;simp (disch:=omega) only [zFv,zAz,zHx,↓reduceIte,reduceCtorEq,Nat.reduceEqDiff,Nat.reduceLT];refine hK_ _ ?_;clear hK_ K_)))
      refine zPy [.no,.no,.no,.no,.no,.full,.full,.full,.full] (by kernel_rfl) ?_
      (repeat' (first
  | (with_reducible first|refine zJw ?_|refine zGv ?_|refine zFz ?_|refine zEv ?_|refine zFy ?_|refine zJv ?_|refine zHz ?_|refine zCz ?_|refine zDw ?_|refine zCy ?_|refine zCv ?_|refine zEx ?_|refine zDz ?_|refine zCx ?_|refine zBx ?_|refine zEz ?_|refine zEy ?_|refine zBz ?_|refine zBy ?_)
  | refine zDy ?_|refine zEw rfl ?_|refine zJz ?_|refine zJx ?_
  | ((first|refine zGw rfl rfl rfl rfl rfl fun K_ hK_=>?_|refine zGx rfl rfl rfl rfl rfl fun K_ hK_=>?_);simp only [zAz,zDx,zGz,↓reduceIte,reduceCtorEq,Nat.reduceEqDiff,Bool.not_true,Bool.not_false];refine hK_ _ ?_;clear hK_ K_)
  | refine zDv (by decide) ?_
  | ((try first|refine zKx rfl rfl rfl ?_|refine zIv rfl rfl ?_|refine zKw rfl rfl rfl ?_|refine zJy rfl rfl ?_);(refine zIw fun Q_ hQ_=>?_;simp (disch:=first|omega|(simp only [List.length_cons,List.length_nil,List.length_append];omega)) only [bb,bp,zLx,↓reduceIte,reduceCtorEq,Nat.reduceEqDiff,Nat.reduceLT,Nat.reduceLeDiff,Nat.reduceAdd,Nat.reduceMul,Nat.reduceSub,Nat.reduceBEq,Int.reduceToNat,cond_true,cond_false,eq_self,beq_self_eq_true,hl,hlm,f1,f2,g5,g6,g7,g8,g27,g28,ct,c3,c4,xOz,zFw wf,zGy wf,zBv wf,zFx wf,zAy wf,zAw,tEvZ26,zIy,zIz,zHv,zHw,zAv wf];first|(refine zCw (Q:=Q_) (fun hp_=>?_) (fun hp_=>?_) <;> first|(exfalso;omega)|(refine hQ_ _ _ ?_;clear hQ_ Q_))|(refine zBw (Q:=Q_) (fun hp_=>?_) (fun hp_=>?_) <;> first|(exfalso;omega)|(refine hQ_ _ _ ?_;clear hQ_ Q_))|(refine hQ_ _ _ ?_;clear hQ_ Q_)))
  | (refine zHy fun K_ hK_=>?_;simp (disch:=omega) only [zFv,zAz,zHx,↓reduceIte,reduceCtorEq,Nat.reduceEqDiff,Nat.reduceLT];refine hK_ _ ?_;clear hK_ K_)))
      (repeat' (first
  | (with_reducible first|refine zJw ?_|refine zGv ?_|refine zFz ?_|refine zEv ?_|refine zFy ?_|refine zJv ?_|refine zHz ?_|refine zCz ?_|refine zDw ?_|refine zCy ?_|refine zCv ?_|refine zEx ?_|refine zDz ?_|refine zCx ?_|refine zBx ?_|refine zEz ?_|refine zEy ?_|refine zBz ?_|refine zBy ?_)
  | refine zDy ?_|refine zEw rfl ?_|refine zJz ?_|refine zJx ?_
  | ((first|refine zGw rfl rfl rfl rfl rfl fun K_ hK_=>?_|refine zGx rfl rfl rfl rfl rfl fun K_ hK_=>?_);simp only [zAz,zDx,zGz,↓reduceIte,reduceCtorEq,Nat.reduceEqDiff,Bool.not_true,Bool.not_false];refine hK_ _ ?_;clear hK_ K_)
  | refine zDv (by decide) ?_
  | ((try first|refine zKx rfl rfl rfl ?_|refine zIv rfl rfl ?_|refine zKw rfl rfl rfl ?_|refine zJy rfl rfl ?_);(refine zIw fun Q_ hQ_=>?_;simp (disch:=first|omega|(simp only [List.length_cons,List.length_nil,List.length_append];omega)) only [bb,bp,zLx,↓reduceIte,reduceCtorEq,Nat.reduceEqDiff,Nat.reduceLT,Nat.reduceLeDiff,Nat.reduceAdd,Nat.reduceMul,Nat.reduceSub,Nat.reduceBEq,Int.reduceToNat,cond_true,cond_false,eq_self,beq_self_eq_true,hl,hlm,f1,f2,g5,g6,g7,g8,g27,g28,hval,hia,hst,zFw wf,zGy wf,zBv wf,zAy wf,tEvZ26,zIy,zIz,zHv,zHw,zAv wf];first|(refine zCw (Q:=Q_) (fun hp_=>?_) (fun hp_=>?_) <;> first|(exfalso;omega)|(refine hQ_ _ _ ?_;clear hQ_ Q_))|(refine zBw (Q:=Q_) (fun hp_=>?_) (fun hp_=>?_) <;> first|(exfalso;omega)|(refine hQ_ _ _ ?_;clear hQ_ Q_))|(refine hQ_ _ _ ?_;clear hQ_ Q_)))
  | (refine zHy fun K_ hK_=>?_;simp (disch:=omega) only [zFv,zAz,zHx,↓reduceIte,reduceCtorEq,Nat.reduceEqDiff,Nat.reduceLT];refine hK_ _ ?_;clear hK_ K_)))
      refine zKz (i+1) (by omega) ⟨hlt,by simp only [zAz,↓reduceIte,reduceCtorEq,Nat.reduceEqDiff];exact g5,by simp only [zAz,↓reduceIte,reduceCtorEq,Nat.reduceEqDiff];exact g6,by simp only [zAz,↓reduceIte,reduceCtorEq,Nat.reduceEqDiff];exact g7,by simp only [zAz,↓reduceIte,reduceCtorEq,Nat.reduceEqDiff];exact g8,by simp only [zAz,↓reduceIte,reduceCtorEq,Nat.reduceEqDiff];exact g27,by simp only [zAz,↓reduceIte,reduceCtorEq,Nat.reduceEqDiff];rfl,rfl,G++[.cells (zAx [uu (N % 2 ^ 64),uu (N >>> 64),uu (R % 2 ^ 64),uu (R >>> 64)]) 57],_,?_,?_,by rw [e6,hRR,List.append_assoc];rfl⟩
      · omega
      · simp only [List.length_append,List.length_cons,List.length_nil];omega
    · have hie:i=xs.length:=by omega
      subst hie
      (repeat' (first
  | (with_reducible first|refine zJw ?_|refine zGv ?_|refine zFz ?_|refine zEv ?_|refine zFy ?_|refine zJv ?_|refine zHz ?_|refine zCz ?_|refine zDw ?_|refine zCy ?_|refine zCv ?_|refine zEx ?_|refine zDz ?_|refine zCx ?_|refine zBx ?_|refine zEz ?_|refine zEy ?_|refine zBz ?_|refine zBy ?_)
  | refine zDy ?_|refine zEw rfl ?_|refine zJz ?_|refine zJx ?_
  | ((first|refine zGw rfl rfl rfl rfl rfl fun K_ hK_=>?_|refine zGx rfl rfl rfl rfl rfl fun K_ hK_=>?_);simp only [zAz,zDx,zGz,↓reduceIte,reduceCtorEq,Nat.reduceEqDiff,Bool.not_true,Bool.not_false];refine hK_ _ ?_;clear hK_ K_)
  | refine zDv (by decide) ?_
  | ((try first|refine zKx rfl rfl rfl ?_|refine zIv rfl rfl ?_|refine zKw rfl rfl rfl ?_|refine zJy rfl rfl ?_);(refine zIw fun Q_ hQ_=>?_;simp (disch:=first|omega|(simp only [List.length_cons,List.length_nil,List.length_append];omega)) only [bb,bp,zLx,↓reduceIte,reduceCtorEq,Nat.reduceEqDiff,Nat.reduceLT,Nat.reduceLeDiff,Nat.reduceAdd,Nat.reduceMul,Nat.reduceSub,Nat.reduceBEq,Int.reduceToNat,cond_true,cond_false,eq_self,beq_self_eq_true,hl,hlm,f1,f2,g5,g6,g7,g8,g27,g28,zFw wf,zGy wf,zBv wf,zFx wf,zAy wf,zAw,tEvZ26,zIy,zIz,zHv,zHw,zAv wf];first|(refine zCw (Q:=Q_) (fun hp_=>?_) (fun hp_=>?_) <;> first|(exfalso;omega)|(refine hQ_ _ _ ?_;clear hQ_ Q_))|(refine zBw (Q:=Q_) (fun hp_=>?_) (fun hp_=>?_) <;> first|(exfalso;omega)|(refine hQ_ _ _ ?_;clear hQ_ Q_))|(refine hQ_ _ _ ?_;clear hQ_ Q_)))
  | (refine zHy fun K_ hK_=>?_;simp (disch:=omega) only [zFv,zAz,zHx,↓reduceIte,reduceCtorEq,Nat.reduceEqDiff,Nat.reduceLT];refine hK_ _ ?_;clear hK_ K_)))
      refine zKy _ _ rfl (ret2 (by decide) (by decide)) ?_
      simp only [zAz,↓reduceIte,reduceCtorEq,Nat.reduceEqDiff]
      refine WV_keep wf (by omega) (fun hfl=>absurd (show false=true from hfl) (by decide)) (fun _=>?_)
      rw [Nat.sub_self,List.replicate_zero,List.append_nil]
      exact ⟨_,rfl,rfl,rfl⟩
  · exact ⟨Nat.zero_le _,by simp only [zAz,↓reduceIte,reduceCtorEq,Nat.reduceEqDiff],by simp only [zAz,↓reduceIte,reduceCtorEq,Nat.reduceEqDiff],by simp only [zAz,↓reduceIte,reduceCtorEq,Nat.reduceEqDiff],by simp only [zAz,↓reduceIte,reduceCtorEq,Nat.reduceEqDiff],by simp only [zAz,↓reduceIte,reduceCtorEq,Nat.reduceEqDiff],by simp only [zAz,↓reduceIte,reduceCtorEq,Nat.reduceEqDiff];try rfl,rfl,[],_,by omega,by show _≤h.clock+2+0;omega,rfl⟩
theorem spec_any (xs:List Int) (he:errB xs=0) (h0:0<xs.length) (a:AV) (h:H) (wf:Wf h) (hs:Sl h a 1 xs.length (xs.map ii)) :
    ∃ M v,(∀ J w,Sl (X h (M++J) w) v 1 (spL (bitL xs) xs.length).length ((spL (bitL xs) xs.length).map ii))∧(om Try.prog KK).call (.fn 34 [a]) h = .ok (.tup [v,ii 0]) (X h M h.w):=by
  obtain ⟨M,hM,e⟩:=spectrum xs he h0 a h wf hs
  refine ⟨M,_,fun J w=>?_,e⟩
  rw [xEw]
  exact Sl.new wf (by rw [List.length_map,xEw,Nat.mul_one]) (by rw [List.getElem?_append_left (zOz hM)];exact hM)
end Go.Proofs.Ytmincoafjnnkpaa
end

section
namespace Go.Proofs.Ytmincoafjnnkpaa
open Go.Ev
set_option maxRecDepth 100000
set_option linter.unusedSimpArgs false
set_option linter.unusedVariables false
set_option maxHeartbeats 2000000
def Own (h:H) (M:List AO) (idx:Nat) (cells:List AV) (v:AV):Prop:=(cells=[]∧v = .nils)∨(cells≠[]∧v = .sl (nx h idx) 0 cells.length none 1∧M[idx]? = some (.cells (zAx cells) 3))
theorem Own.sl {h:H} (wf:Wf h) {M:List AO} {idx:Nat} {cells:List AV} {v:AV} (x:Own h M idx cells v) (w:Nat):Sl (X h M w) v 1 cells.length cells:=by
  rcases x with ⟨rfl,rfl⟩|⟨_,rfl,hM⟩
  · exact Sl.nil _ _
  · exact Sl.new wf (by rw [Nat.mul_one]) hM
theorem Own.flat {h:H} {M:List AO} {idx:Nat} {cells:List AV} {v:AV} (x:Own h M idx cells v):AV.cells v=[v]∧oneB v=true:=by
  rcases x with ⟨rfl,rfl⟩|⟨_,rfl,hM⟩ <;> exact ⟨rfl,rfl⟩
theorem Own.keep {h:H} {M M':List AO} {idx:Nat} {cells:List AV} {v:AV} (x:Own h M idx cells v) (k:cells≠[] → ∀ o,M[idx]? = some o→M'[idx]? = some o):Own h M' idx cells v:=by
  rcases x with ⟨rfl,rfl⟩|⟨h0,rfl,hM⟩
  · exact .inl ⟨rfl,rfl⟩
  · exact .inr ⟨h0,rfl,k h0 _ hM⟩
theorem Own.app {h:H} (wf:Wf h) {M:List AO} {idx:Nat} {cells:List AV} {v:AV} (x:Own h M idx cells v) (y:AV) (hy:oneB y=true) (hn:cells.length≤1000) :
    ∃ v' M',Own h M' (M.length+1) (cells++[y]) v'∧M'.length=M.length+2∧(∀ k o,(cells=[]∨k≠idx)→M[k]? = some o→M'[k]? = some o) ∧ ∀ w,h.clock≤w → ∃ w',h.clock≤w'∧w'≤w ∧
      appendE Try.prog 22 (reszT Try.prog 22 v) (.sl (nx h M.length) 0 1 (some 1) 1) (X h (M++[.cells (zAx [y]) 3]) w) = .ok v' (X h M' w'):=by
  have hs : ∀ w,srcCells (X h (M++[.cells (zAx [y]) 3]) w) 1 (.sl (nx h M.length) 0 1 (some 1) 1)=some (1,[y]):=fun w=>src_new (e:=3) wf (by rw [xAy];rfl) rfl
  have hlen:(M++[AO.cells (zAx [y]) 3]).length=M.length+1:=by rw [List.length_append];rfl
  have hne:cells++[y]≠[]:=by simp
  rcases x with ⟨rfl,rfl⟩|⟨h0,rfl,hM⟩
  · refine ⟨.sl (nx h (M.length+1)) 0 1 none 1,(M++[.cells (zAx [y]) 3])++[.cells (zAx [y]) 3],.inr ⟨hne,rfl,?_⟩,?_,?_,fun w hw=>⟨w,hw,Nat.le_refl _,?_⟩⟩
    rotate_right 1
    · have happ:=append_nils (P:=Try.prog) (t:=22) (w:=w) wf yZz sz_3 el_3 (n:=1) (by omega) (by decide) (by decide) (hs w) rfl
      rw [hlen] at happ
      rw [xBv]
      exact happ
    · rw [List.getElem?_append_right (by simp)];simp
    · simp
    · intro k o _ ho
      rw [List.append_assoc,List.getElem?_append_left (zOz ho)];exact ho
  · have hlt:=zOz hM
    have hM':(M++[AO.cells (zAx [y]) 3])[idx]? = some (.cells (zAx cells) 3):=by rw [List.getElem?_append_left hlt];exact hM
    refine ⟨.sl (nx h (M.length+1)) 0 (cells++[y]).length none 1,(M++[AO.cells (zAx [y]) 3]).set idx AO.dead++[AO.cells (zAx (cells++[y])) 3],.inr ⟨hne,rfl,?_⟩,?_,?_,fun w hw=>⟨min (h.clock+idx) w,by omega,Nat.min_le_right _ _,?_⟩⟩
    rotate_right 1
    · have happ:=xEz (P:=Try.prog) (t:=22) (w:=w) wf yZz sz_3 el_3 (n:=1) (len:=cells.length) (by omega) (by decide) (by decide) hM' (by rw [Nat.mul_one]) (hs w) rfl (by rw [yUx,hy];rfl)
      rw [hlen] at happ
      rw [yTv,List.length_append]
      exact happ
    · rw [List.getElem?_append_right (by simp)];simp
    · simp
    · intro k o hk ho
      have hkl:=zOz ho
      have hki:k≠idx:=hk.resolve_left h0
      rw [List.getElem?_append_left (by simp;omega),List.getElem?_set_ne (Ne.symm hki),List.getElem?_append_left hkl];exact ho
theorem xXw {f:Nat→Int} {b:Int} (hf : ∀ i,-b≤f i∧f i≤b) : ∀ n:Nat,-(b * n)≤sm n f∧sm n f≤b * n
  | 0=>by show -(b * 0)≤0∧(0:Int)≤b * 0;rw [Int.mul_zero];exact ⟨by omega,by omega⟩
  | n+1=>by
    have h1:=xXw hf n
    have h2:=hf n
    have e:b * ((n+1:Nat):Int)=b * (n:Int)+b:=by rw [Int.natCast_add,Int.mul_add];simp
    rw [e]
    show -(b * (n:Int)+b)≤sm n f+f n∧sm n f+f n≤b * (n:Int)+b
    omega
theorem ee_bound (b:Bool) : -1≤ee b∧ee b≤1:=by cases b <;> exact ⟨by decide,by decide⟩
theorem sp_bound (n:Nat) (s:Nat→Bool) (k:Nat) : -(n:Int)≤sp n s k∧sp n s k≤n:=by
  have:=xCx (fun i=>s i ^^ s (cy n i k)) n
  rw [sp_cnt]
  omega
theorem sq_bound {x:Int} {b:Int} (h : -b≤x∧x≤b):0≤x * x∧x * x≤b * b:=by
  refine ⟨?_,?_⟩
  · rcases Int.le_total 0 x with h1|h1
    · exact Int.mul_nonneg h1 h1
    · have:=Int.mul_nonneg (show 0 ≤ -x by omega) (show 0 ≤ -x by omega)
      rwa [Int.neg_mul_neg] at this
  · have h1:=Int.mul_nonneg (show 0≤b - x by omega) (show 0≤b+x by omega)
    rw [Int.sub_mul,Int.mul_add,Int.mul_add,Int.mul_comm x b] at h1
    omega
abbrev lI (f:Nat→Bool) (m:Nat):List Int:=(mL f m).map fun b=>((b.toNat:Nat):Int)
theorem lI_len (f:Nat→Bool) (m:Nat):(lI f m).length=m:=by rw [List.length_map,xCz]
theorem lI_ok (f:Nat→Bool) {m:Nat} (h:m≤128):errB (lI f m)=0:=errB_ok.2 ⟨by rw [lI_len];exact h,good_ints _⟩
theorem lI_sq (f:Nat→Bool) {m i:Nat} (h:i<m):sq (bitL (lI f m)) i=f i:=by rw [bitL_ints,sq_mL f h]
theorem spL_congr {bs cs:List Bool} {n:Nat} (h1:bs.length=n) (h2:cs.length=n) (e : ∀ k,k<n→sp n (sq bs) k=sp n (sq cs) k):spL bs n=spL cs n:=by
  unfold spL
  rw [h1,h2]
  exact List.map_congr_left fun k hk=>e k (List.mem_range.1 hk)
end Go.Proofs.Ytmincoafjnnkpaa
end

section
namespace Go.Proofs.Ytmincoafjnnkpaa
open Go.Ev
set_option maxRecDepth 100000
set_option linter.unusedSimpArgs false
set_option linter.unusedVariables false
set_option maxHeartbeats 2000000
theorem tEvZ28 :type_of% (And.intro (And.intro (And.intro (And.intro (And.intro (And.intro (And.intro (@ySz) (@yRv)) (And.intro (@yRw) (@yRx))) (And.intro (And.intro (@yRy) (@yRz)) (And.intro (@ia_2) (And.intro (@ia_3) (@ia_4))))) (And.intro (And.intro (And.intro (@ia_5) (@yQv)) (And.intro (@yQw) (@yQx))) (And.intro (And.intro (@yQy) (@yQz)) (And.intro (@yPv) (And.intro (@zSx) (@yPw)))))) (And.intro (And.intro (And.intro (And.intro (@yPx) (@yPy)) (And.intro (@yPz) (@yOv))) (And.intro (And.intro (@yOw) (@yOx)) (And.intro (@yOy) (And.intro (@yOz) (@sz_2))))) (And.intro (And.intro (And.intro (@sz_3) (@sz_4)) (And.intro (@sz_5) (And.intro (@zZv) (@zZw)))) (And.intro (And.intro (@zZx) (@zZy)) (And.intro (@zZz) (And.intro (@zYv) (@zSz))))))) (And.intro (And.intro (And.intro (And.intro (And.intro (@zYw) (@zYx)) (And.intro (@zYy) (@zRy))) (And.intro (And.intro (@zYz) (@zXv)) (And.intro (@zXw) (And.intro (@zXx) (@zXy))))) (And.intro (And.intro (And.intro (@ze_2) (@ze_3)) (And.intro (@ze_4) (And.intro (@ze_5) (@zXz)))) (And.intro (And.intro (@zWv) (@zWw)) (And.intro (@zWx) (And.intro (@zWy) (@zWz)))))) (And.intro (And.intro (And.intro (And.intro (@zVv) (@zVw)) (And.intro (@zVx) (@zVy))) (And.intro (And.intro (@zVz) (@zUv)) (And.intro (@zUw) (And.intro (@zUx) (@zUy))))) (And.intro (And.intro (And.intro (@zNv) (@zNw)) (And.intro (@zNx) (And.intro (@zNy) (@zNz)))) (And.intro (And.intro (@zMv) (@zMw)) (And.intro (@zMx) (And.intro (@zMy) (@yNx)))))))) (And.intro (And.intro (And.intro (And.intro (And.intro (And.intro (@yNy) (@yNz)) (And.intro (@yMv) (@yMw))) (And.intro (And.intro (@yMx) (@yMy)) (And.intro (@yMz) (And.intro (@yLv) (@yLw))))) (And.intro (And.intro (And.intro (@yLx) (@yLy)) (And.intro (@yLz) (@yKv))) (And.intro (And.intro (@yKw) (@yKx)) (And.intro (@yKy) (And.intro (@yKz) (@yJv)))))) (And.intro (And.intro (And.intro (And.intro (@yJw) (@yJx)) (And.intro (@yJy) (@yJz))) (And.intro (And.intro (@yIv) (@yIw)) (And.intro (@yIx) (And.intro (@yIy) (@yIz))))) (And.intro (And.intro (And.intro (@yHv) (@yHw)) (And.intro (@yHx) (And.intro (@yHy) (@yHz)))) (And.intro (And.intro (@yGv) (@yGw)) (And.intro (@yGx) (And.intro (@yGy) (@yGz))))))) (And.intro (And.intro (And.intro (And.intro (And.intro (@yFv) (@yFw)) (And.intro (@yFx) (@yFy))) (And.intro (And.intro (@yFz) (@yEv)) (And.intro (@yEw) (And.intro (@yEx) (@yEy))))) (And.intro (And.intro (And.intro (@yEz) (@yDv)) (And.intro (@yDw) (And.intro (@yDx) (@yDy)))) (And.intro (And.intro (@zSw) (@yDz)) (And.intro (@yCv) (And.intro (@yCw) (@yCx)))))) (And.intro (And.intro (And.intro (And.intro (@yCy) (@yCz)) (And.intro (@yBv) (@yBw))) (And.intro (And.intro (@yBx) (@yBy)) (And.intro (@yBz) (And.intro (@yAv) (@yAw))))) (And.intro (And.intro (And.intro (@yAx) (@yAy)) (And.intro (@zPw) (And.intro (@zTx) (@zTy)))) (And.intro (And.intro (@zSy) (@zTz)) (And.intro (@zSv) (And.intro (@yNv) (@yNw))))))))):=And.intro (And.intro (And.intro (And.intro (And.intro (And.intro (And.intro (@ySz) (@yRv)) (And.intro (@yRw) (@yRx))) (And.intro (And.intro (@yRy) (@yRz)) (And.intro (@ia_2) (And.intro (@ia_3) (@ia_4))))) (And.intro (And.intro (And.intro (@ia_5) (@yQv)) (And.intro (@yQw) (@yQx))) (And.intro (And.intro (@yQy) (@yQz)) (And.intro (@yPv) (And.intro (@zSx) (@yPw)))))) (And.intro (And.intro (And.intro (And.intro (@yPx) (@yPy)) (And.intro (@yPz) (@yOv))) (And.intro (And.intro (@yOw) (@yOx)) (And.intro (@yOy) (And.intro (@yOz) (@sz_2))))) (And.intro (And.intro (And.intro (@sz_3) (@sz_4)) (And.intro (@sz_5) (And.intro (@zZv) (@zZw)))) (And.intro (And.intro (@zZx) (@zZy)) (And.intro (@zZz) (And.intro (@zYv) (@zSz))))))) (And.intro (And.intro (And.intro (And.intro (And.intro (@zYw) (@zYx)) (And.intro (@zYy) (@zRy))) (And.intro (And.intro (@zYz) (@zXv)) (And.intro (@zXw) (And.intro (@zXx) (@zXy))))) (And.intro (And.intro (And.intro (@ze_2) (@ze_3)) (And.intro (@ze_4) (And.intro (@ze_5) (@zXz)))) (And.intro (And.intro (@zWv) (@zWw)) (And.intro (@zWx) (And.intro (@zWy) (@zWz)))))) (And.intro (And.intro (And.intro (And.intro (@zVv) (@zVw)) (And.intro (@zVx) (@zVy))) (And.intro (And.intro (@zVz) (@zUv)) (And.intro (@zUw) (And.intro (@zUx) (@zUy))))) (And.intro (And.intro (And.intro (@zNv) (@zNw)) (And.intro (@zNx) (And.intro (@zNy) (@zNz)))) (And.intro (And.intro (@zMv) (@zMw)) (And.intro (@zMx) (And.intro (@zMy) (@yNx)))))))) (And.intro (And.intro (And.intro (And.intro (And.intro (And.intro (@yNy) (@yNz)) (And.intro (@yMv) (@yMw))) (And.intro (And.intro (@yMx) (@yMy)) (And.intro (@yMz) (And.intro (@yLv) (@yLw))))) (And.intro (And.intro (And.intro (@yLx) (@yLy)) (And.intro (@yLz) (@yKv))) (And.intro (And.intro (@yKw) (@yKx)) (And.intro (@yKy) (And.intro (@yKz) (@yJv)))))) (And.intro (And.intro (And.intro (And.intro (@yJw) (@yJx)) (And.intro (@yJy) (@yJz))) (And.intro (And.intro (@yIv) (@yIw)) (And.intro (@yIx) (And.intro (@yIy) (@yIz))))) (And.intro (And.intro (And.intro (@yHv) (@yHw)) (And.intro (@yHx) (And.intro (@yHy) (@yHz)))) (And.intro (And.intro (@yGv) (@yGw)) (And.intro (@yGx) (And.intro (@yGy) (@yGz))))))) (And.intro (And.intro (And.intro (And.intro (And.intro (@yFv) (@yFw)) (And.intro (@yFx) (@yFy))) (And.intro (And.intro (@yFz) (@yEv)) (And.intro (@yEw) (And.intro (@yEx) (@yEy))))) (And.intro (And.intro (And.intro (@yEz) (@yDv)) (And.intro (@yDw) (And.intro (@yDx) (@yDy)))) (And.intro (And.intro (@zSw) (@yDz)) (And.intro (@yCv) (And.intro (@yCw) (@yCx)))))) (And.intro (And.intro (And.intro (And.intro (@yCy) (@yCz)) (And.intro (@yBv) (@yBw))) (And.intro (And.intro (@yBx) (@yBy)) (And.intro (@yBz) (And.intro (@yAv) (@yAw))))) (And.intro (And.intro (And.intro (@yAx) (@yAy)) (And.intro (@zPw) (And.intro (@zTx) (@zTy)))) (And.intro (And.intro (@zSy) (@zTz)) (And.intro (@zSv) (And.intro (@yNv) (@yNw))))))))
theorem lawSpectrum (xs:List Int) (k:Int) (hk:0≤k∧k≤255) (a:AV) (h:H) (wf:Wf h) (hs:Sl h a 1 xs.length (xs.map ii)) :
    (om Try.prog KK).call (.fn 12 [a,.int .u8 k]) h = .ok (.bool true) h:=by
  have hl : ∀ h',lenE Try.prog 22 a h'=some (ii (xs.length:Int)):=fun h'=>hs.len yZz
  obtain ⟨f1,f2⟩:=yXy hs
  have cf1 : ∀ (l:List AO) (w:Nat),w≤h.clock+l.length→(om Try.prog KK).call (.fn 37 [a]) (X h l w) = .ok (.bool (decide (errB xs=0))) (X h l w):=fun l w hw=>fine xs a _ (wf.X hw) (hs.up wf l w)
  refine ySv (zLv (fn:=Try.f12) Try.func12 rfl rfl rfl rfl rfl ?_)
  simp only [zLx]
  by_cases hg:errB xs=0∧0<xs.length
  · obtain ⟨hx,h0⟩:=hg
    rw [decide_eq_true hx] at cf1
    obtain ⟨hx1,hx2⟩:=errB_bits hx
    have hxl:=zPz xs
    have hne : ¬ (xs.length:Int)=0:=by omega
    have hs':Sl h a 1 (bitL xs).length ((bitL xs).map bi):=by rw [zPz,← hx2];exact hs
    obtain ⟨M,hM1,e1⟩:=spectrum xs hx h0 a (X h [] h.clock) (wf.X (by simp)) (hs.up wf _ _)
    rw [X_X,X_w,List.nil_append,nx_X] at e1
    have e1:(om Try.prog KK).call (.fn 34 [a]) (X h [] h.clock) = .ok (.tup [.sl (nx h 1) 0 xs.length (some xs.length) 1,ii 0]) (X h M h.clock):=e1
    generalize hn:xs.length=n at *
    generalize hsq:sq (bitL xs)=s at *
    have hspg : ∀ i,i<n→(spL (bitL xs) n)[i]? = some (sp n s i):=fun i hi=>by rw [spL_get _ hi,hxl,hsq]
    have lv1 : ∀ h',lenE Try.prog 22 (.sl (nx h 1) 0 n (some n) 1) h'=some (ii (n:Int)):=fun h'=>by unfold lenE;rw [yZz];rfl
    have ix1 : ∀ i,i<n→indexAddrE Try.prog 22 (.sl (nx h 1) 0 n (some n) 1) (.int .i64 (i:Int))=some (.ptr (nx h 1) i):=fun i hi=>by
      have ht:toNatE (.int .i64 (i:Int))=some i:=by rw [yWy (by omega),Int.toNat_natCast]
      simp only [zRv,ht,zPw,yUz hi,Nat.zero_add,Nat.mul_one]
    have ld1 : ∀ {L:List AO},L[1]? = some (.cells (zAx ((spL (bitL xs) n).map ii)) 3) → ∀ i,i<n → ∀ w,load1 (nx h 1) i (X h L w)=some (ii (sp n s i)):=fun {L} hL i hi w=>by
      rw [zGy wf,hL]
      show cellAt (some (AO.cells (zAx ((spL (bitL xs) n).map ii)) 3)) i=_
      rw [yUv,List.getElem?_map,hspg i hi];rfl
    have ix10:indexAddrE Try.prog 22 (.sl (nx h 1) 0 n (some n) 1) (.int .i64 0)=some (.ptr (nx h 1) 0):=ix1 0 h0
    have ld10 : ∀ w,load1 (nx h 1) 0 (X h M w)=some (ii (n:Int)):=fun w=>by rw [ld1 hM1 0 h0,sp_zero]
    have hnz:(n:Int)≠0:=by omega
    have n2:(2:Int)≠0:=by decide
    obtain ⟨kn,rfl⟩ : ∃ kn:Nat,k=(kn:Int):=⟨k.toNat,by omega⟩
    have htl:kn % n<n:=Nat.mod_lt _ h0
    have hturn : ∀ i,i<n→((i:Int)+(kn:Int)).tmod (n:Int)=((cy n i (kn % n):Nat):Int):=fun i hi=>by
      rw [← Int.natCast_add]
      show (((i+kn) % n:Nat):Int)=_
      rw [← cy_mod hi htl,Nat.add_mod_mod]

    have hee : ∀ b:Bool,(1:Int) - 2 * (((b.toNat:Nat)):Int)=ee b:=fun b=>by cases b <;> rfl
    have hnot : ∀ b:Bool,(1:Int) - (((b.toNat:Nat)):Int)=(((!b).toNat:Nat):Int):=fun b=>by cases b <;> rfl
    (repeat' (first
  | (with_reducible first|refine zJw ?_|refine zGv ?_|refine zFz ?_|refine zEv ?_|refine zFy ?_|refine zJv ?_|refine zHz ?_|refine zCz ?_|refine zDw ?_|refine zCy ?_|refine zCv ?_|refine zEx ?_|refine zDz ?_|refine zCx ?_|refine zBx ?_|refine zEz ?_|refine zEy ?_|refine zBz ?_|refine zBy ?_)
  | refine zDy ?_|refine zEw rfl ?_|refine zJz ?_|refine zJx ?_
  | ((first|refine zGw rfl rfl rfl rfl rfl fun K_ hK_=>?_|refine zGx rfl rfl rfl rfl rfl fun K_ hK_=>?_);simp only [zAz,zDx,zGz,↓reduceIte,reduceCtorEq,Nat.reduceEqDiff,Bool.not_true,Bool.not_false];refine hK_ _ ?_;clear hK_ K_)
  | refine zDv (by decide) ?_
  | ((try first|refine zKx rfl rfl rfl ?_|refine zIv rfl rfl ?_|refine zKw rfl rfl rfl ?_|refine zJy rfl rfl ?_);(refine zIw fun Q_ hQ_=>?_;simp (disch:=first|omega|(simp only [List.length_cons,List.length_nil,List.length_append];omega)) only [bb,bp,zLx,↓reduceIte,reduceCtorEq,Nat.reduceEqDiff,Nat.reduceLT,Nat.reduceLeDiff,Nat.reduceAdd,Nat.reduceMul,Nat.reduceSub,Nat.reduceBEq,Int.reduceToNat,cond_true,cond_false,eq_self,beq_self_eq_true,hl,hne,lv1,ix10,ld10,f1,f2,zFw wf,zGy wf,zBv wf,zFx wf,zAy wf,zAw,tEvZ28,zIy,zIz,zHv,zHw,zAv wf];first|(refine zCw (Q:=Q_) (fun hp_=>?_) (fun hp_=>?_) <;> first|(exfalso;omega)|(refine hQ_ _ _ ?_;clear hQ_ Q_))|(refine zBw (Q:=Q_) (fun hp_=>?_) (fun hp_=>?_) <;> first|(exfalso;omega)|(refine hQ_ _ _ ?_;clear hQ_ Q_))|(refine hQ_ _ _ ?_;clear hQ_ Q_)|(refine zQv (cf1 _ _ (by first|omega|(simp only [List.length_append,List.length_cons,List.length_nil];omega))) ?_;refine hQ_ _ _ ?_;clear hQ_ Q_)|(refine zQv (e1) ?_;refine hQ_ _ _ ?_;clear hQ_ Q_)))
  | (refine zHy fun K_ hK_=>?_;simp (disch:=omega) only [zFv,zAz,zHx,↓reduceIte,reduceCtorEq,Nat.reduceEqDiff,Nat.reduceLT];refine hK_ _ ?_;clear hK_ K_)))
    refine zQx (α:=Nat) (fun (i:Nat) f d h'=>i≤n∧f 0=a∧f 1 = .int .u8 (kn:Int)∧f 5=ii (n:Int)∧f 6 = .sl (nx h 1) 0 n (some n) 1∧f 11=ii (sm i (fun j=>ee (s j)))∧f 12=ii (sm i (sp n s))∧f 13=ii (i:Int)∧d=[] ∧
      ∃ va vb vc L ia ib ic w,f 8=va∧f 9=vb∧f 10=vc∧Own h L ia ((mL (fun j=>s (cy n j (kn % n))) i).map bi) va∧Own h L ib ((mL (fun j=>s (n - 1 - j)) i).map bi) vb∧Own h L ic ((mL (fun j=>!s j) i).map bi) vc ∧
        (i=0∨(ia≠1∧ib≠1∧ic≠1∧ia≠ib∧ia≠ic∧ib≠ic∧ia<L.length∧ib<L.length∧ic<L.length))∧2≤L.length∧L[1]? = some (.cells (zAx ((spL (bitL xs) n).map ii)) 3)∧h.clock≤w∧w≤h.clock+L.length∧h'=X h L w) (fun i=>n - i) ?_ (n+1) 0 (by omega) ?_
    · rintro i f d h' ⟨hi,g0,g1,g5,g6,g11,g12,g13,rfl,va,vb,vc,L,ia,ib,ic,w,g8,g9,g10,oa,ob,oc,hidx,hL2,hL1,hw,hw2,rfl⟩
      by_cases hlt:i<n
      · have hcyl:=cy_lt hlt htl
        obtain ⟨id1,off1,hixa,hlda⟩:=bget wf hs' (i:=cy n i (kn % n)) (by omega)
        obtain ⟨id2,off2,hixb,hldb⟩:=bget wf hs' (i:=n - 1 - i) (by omega)
        obtain ⟨id3,off3,hixc,hldc⟩:=bget wf hs' (i:=i) (by omega)
        rw [hsq] at hlda hldb hldc
        have hti:=hturn i hlt
        have hni:(n:Int) - 1 - (i:Int)=((n - 1 - i:Nat):Int):=by omega
        have hbl : ∀ fb:Nat→Bool,((mL fb i).map bi).length=i:=fun fb=>by rw [List.length_map,xCz]
        have hbn : ∀ fb:Nat→Bool,i=0→(mL fb i).map bi=[]:=fun fb h=>by subst h;rfl
        obtain ⟨va',La,oa',lla,ka,happA⟩:=oa.app wf (bi (s (cy n i (kn % n)))) rfl (by rw [hbl];omega)
        obtain ⟨wa,hwa1,hwa2,happA⟩:=happA w hw
        have kx : ∀ {fb fc:Nat→Bool} {p q:Nat},(i=0∨q≠p)→((mL fb i).map bi=[]∨q≠p):=fun h=>h.imp (hbn _) id
        have hia:i=0∨ib≠ia:=hidx.imp id fun h=>Ne.symm h.2.2.2.1
        have hic:i=0∨ic≠ia:=hidx.imp id fun h=>Ne.symm h.2.2.2.2.1
        have hbc:i=0∨ic≠ib:=hidx.imp id fun h=>Ne.symm h.2.2.2.2.2.1
        have h1a:i=0∨1≠ia:=hidx.imp id fun h=>Ne.symm h.1
        have h1b:i=0∨1≠ib:=hidx.imp id fun h=>Ne.symm h.2.1
        have h1c:i=0∨1≠ic:=hidx.imp id fun h=>Ne.symm h.2.2.1
        have hib:i=0∨ib<L.length:=hidx.imp id fun h=>h.2.2.2.2.2.2.2.1
        have hicl:i=0∨ic<L.length:=hidx.imp id fun h=>h.2.2.2.2.2.2.2.2
        have ob2:Own h La ib ((mL (fun j=>s (n - 1 - j)) i).map bi) vb:=ob.keep fun _ o ho=>ka ib o (kx (fb:=fun j=>s (cy n j (kn % n))) (fc:=s) hia) ho
        have oc2:Own h La ic ((mL (fun j=>!s j) i).map bi) vc:=oc.keep fun _ o ho=>ka ic o (kx (fb:=fun j=>s (cy n j (kn % n))) (fc:=s) hic) ho
        have l1a:=ka 1 _ (kx (fb:=fun j=>s (cy n j (kn % n))) (fc:=s) h1a) hL1
        obtain ⟨vb',Lb,ob',llb,kb,happB⟩:=ob2.app wf (bi (s (n - 1 - i))) rfl (by rw [hbl];omega)
        obtain ⟨wb,hwb1,hwb2,happB⟩:=happB wa hwa1
        have l1b:=kb 1 _ (kx (fb:=fun j=>s (n - 1 - j)) (fc:=s) h1b) l1a
        have oa2:Own h Lb (L.length+1) _ va':=oa'.keep fun _ o ho=>kb _ o (kx (fb:=fun j=>s (n - 1 - j)) (fc:=s) (hib.imp id fun h=>by omega)) ho
        have oc3:Own h Lb ic ((mL (fun j=>!s j) i).map bi) vc:=oc2.keep fun _ o ho=>kb ic o (kx (fb:=fun j=>s (n - 1 - j)) (fc:=s) hbc) ho
        obtain ⟨vc',Lc,oc',llc,kc,happC⟩:=oc3.app wf (bi (!s i)) rfl (by rw [hbl];omega)
        obtain ⟨wc,hwc1,hwc2,happC⟩:=happC wb hwb1
        have l1c:=kc 1 _ (kx (fb:=fun j=>!s j) (fc:=s) h1c) l1b
        have oa3:Own h Lc (L.length+1) _ va':=oa2.keep fun _ o ho=>kc _ o (kx (fb:=fun j=>!s j) (fc:=s) (hicl.imp id fun h=>by omega)) ho
        have ob3:Own h Lc (La.length+1) _ vb':=ob'.keep fun _ o ho=>kc _ o (kx (fb:=fun j=>!s j) (fc:=s) (hicl.imp id fun h=>by omega)) ho
        obtain ⟨ga1,ga2⟩:=oa.flat
        obtain ⟨ga3,ga4⟩:=oa'.flat
        obtain ⟨gb1,gb2⟩:=ob.flat
        obtain ⟨gb3,gb4⟩:=ob'.flat
        obtain ⟨gc1,gc2⟩:=oc.flat
        obtain ⟨gc3,gc4⟩:=oc'.flat
        have hrz : ∀ id off l c esz,reszT Try.prog 22 (.sl id off l (some c) esz) = .sl id off l (some c) 1:=fun _ _ _ _ _=>xGv yZz sz_3

        have b1:=xXw (f:=fun j=>ee (s j)) (b:=1) (fun j=>ee_bound _) i
        have b2:=xXw (f:=sp n s) (b:=(n:Int)) (fun j=>sp_bound n s j) i
        have b3:=sp_bound n s i
        have b4:=ee_bound (s i)
        have hni2:(n:Int) * (i:Int)≤128 * 128:=Int.mul_le_mul (by omega) (by omega) (by omega) (by omega)
        have e1s:sm (i+1) (fun j=>ee (s j))=sm i (fun j=>ee (s j))+ee (s i):=rfl
        have e2s:sm (i+1) (sp n s)=sm i (sp n s)+sp n s i:=rfl
        have hxi:=hee (s i)
        have hxn:AV.int .i64 ((1:Int) - (((s i).toNat:Nat):Int))=bi (!s i):=by rw [hnot]
        have hxb:(0:Int)≤(((s i).toNat:Nat):Int)∧(((s i).toNat:Nat):Int)≤1:=by cases s i <;> simp
        have hmod:((n:Int) - sp n s i).tmod 2=0:=by
          rw [sp_cnt,show (n:Int) - ((n:Int) - 2 * (cnt n (fun j=>s j ^^ s (cy n j i)):Int))=2 * (cnt n (fun j=>s j ^^ s (cy n j i)):Int) by omega]
          exact Int.mul_tmod_right _ _
        have lxi:=fun w=>ld1 l1c i hlt w
        have lxi2:=fun w=>ld1 l1b i hlt w
        have ixi:=ix1 i hlt
        have eA:(mL (fun j=>s (cy n j (kn % n))) (i+1)).map bi=(mL (fun j=>s (cy n j (kn % n))) i).map bi++[bi (s (cy n i (kn % n)))]:=by rw [mL_succ,List.map_append];rfl
        have eB:(mL (fun j=>s (n - 1 - j)) (i+1)).map bi=(mL (fun j=>s (n - 1 - j)) i).map bi++[bi (s (n - 1 - i))]:=by rw [mL_succ,List.map_append];rfl
        have eC:(mL (fun j=>!s j) (i+1)).map bi=(mL (fun j=>!s j) i).map bi++[bi (!s i)]:=by rw [mL_succ,List.map_append];rfl
        rw [← eA] at oa3
        rw [← eB] at ob3
        rw [← eC] at oc'
        generalize hS1:sm i (fun j=>ee (s j))=S1 at *
        generalize hS2:sm i (sp n s)=S2 at *
        have ho1:oneB (bi (s (cy n i (kn % n))))=true∧AV.cells (bi (s (cy n i (kn % n))))=[bi (s (cy n i (kn % n)))]:=⟨rfl,rfl⟩
        have ho2:oneB (bi (s (n - 1 - i)))=true∧AV.cells (bi (s (n - 1 - i)))=[bi (s (n - 1 - i))]:=⟨rfl,rfl⟩
        obtain ⟨ho1,ho1'⟩:=ho1
        obtain ⟨ho2,ho2'⟩:=ho2
        generalize bi (s (cy n i (kn % n)))=y1 at *
        generalize bi (s (n - 1 - i))=y2 at *
        have ho3:oneB (bi (!s i))=true:=rfl
        have ho3':AV.cells (bi (!s i))=[bi (!s i)]:=rfl
        generalize bi (!s i)=y3 at *
        generalize hx0:(((s i).toNat:Nat):Int)=x0 at *
        have hldc : ∀ l w,load1 id3 off3 (X h l w)=some (ii x0):=fun l w=>by rw [hldc,← hx0]
        generalize hesi:ee (s i)=es at *
        (repeat' (first
  | (with_reducible first|refine zJw ?_|refine zGv ?_|refine zFz ?_|refine zEv ?_|refine zFy ?_|refine zJv ?_|refine zHz ?_|refine zCz ?_|refine zDw ?_|refine zCy ?_|refine zCv ?_|refine zEx ?_|refine zDz ?_|refine zCx ?_|refine zBx ?_|refine zEz ?_|refine zEy ?_|refine zBz ?_|refine zBy ?_)
  | refine zDy ?_|refine zEw rfl ?_|refine zJz ?_|refine zJx ?_
  | ((first|refine zGw rfl rfl rfl rfl rfl fun K_ hK_=>?_|refine zGx rfl rfl rfl rfl rfl fun K_ hK_=>?_);simp only [zAz,zDx,zGz,↓reduceIte,reduceCtorEq,Nat.reduceEqDiff,Bool.not_true,Bool.not_false];refine hK_ _ ?_;clear hK_ K_)
  | refine zDv (by decide) ?_
  | ((try first|refine zKx rfl rfl rfl ?_|refine zIv rfl rfl ?_|refine zKw rfl rfl rfl ?_|refine zJy rfl rfl ?_);(refine zIw fun Q_ hQ_=>?_;simp (disch:=first|omega|(simp only [List.length_cons,List.length_nil,List.length_append];omega)) only [bb,bp,zLx,↓reduceIte,reduceCtorEq,Nat.reduceEqDiff,Nat.reduceLT,Nat.reduceLeDiff,Nat.reduceAdd,Nat.reduceMul,Nat.reduceSub,Nat.reduceBEq,Int.reduceToNat,cond_true,cond_false,eq_self,beq_self_eq_true,hl,lv1,conv_u8 hk,xOw hnz,hti,hni,hixa,hlda,hixb,hldb,hixc,hldc,hxi,hxn,happA,happB,happC,hrz,ho1,ho1',ho2,ho2',ho3,ho3',ga1,ga2,ga3,ga4,gb1,gb2,gb3,gb4,gc1,gc2,gc3,gc4,g0,g1,g5,g6,g8,g9,g10,g11,g12,g13,f1,f2,ixi,lxi,lxi2,zSv,zFw wf,zGy wf,zBv wf,zFx wf,zAy wf,zAw,tEvZ28,zIy,zIz,zHv,zHw,zAv wf];first|(refine zCw (Q:=Q_) (fun hp_=>?_) (fun hp_=>?_) <;> first|(exfalso;omega)|(refine hQ_ _ _ ?_;clear hQ_ Q_))|(refine zBw (Q:=Q_) (fun hp_=>?_) (fun hp_=>?_) <;> first|(exfalso;omega)|(refine hQ_ _ _ ?_;clear hQ_ Q_))|(refine hQ_ _ _ ?_;clear hQ_ Q_)))
  | (refine zHy fun K_ hK_=>?_;simp (disch:=omega) only [zFv,zAz,zHx,↓reduceIte,reduceCtorEq,Nat.reduceEqDiff,Nat.reduceLT];refine hK_ _ ?_;clear hK_ K_)))
        by_cases hi0:i=0
        · refine zPy [.full,.full,.full,.no,.no,.no,.no,.no,.no,.no,.no,.no,.no,.full,.full,.full,.full,.full,.full,.full,.no,.full,.full,.full,.full,.full,.full,.full,.no,.no,.full,.full,.full,.no,.full,.full,.full,.full,.full,.full,.full,.full] (by kernel_rfl) ?_
          (repeat' (first
  | (with_reducible first|refine zJw ?_|refine zGv ?_|refine zFz ?_|refine zEv ?_|refine zFy ?_|refine zJv ?_|refine zHz ?_|refine zCz ?_|refine zDw ?_|refine zCy ?_|refine zCv ?_|refine zEx ?_|refine zDz ?_|refine zCx ?_|refine zBx ?_|refine zEz ?_|refine zEy ?_|refine zBz ?_|refine zBy ?_)
  | refine zDy ?_|refine zEw rfl ?_|refine zJz ?_|refine zJx ?_
  | ((first|refine zGw rfl rfl rfl rfl rfl fun K_ hK_=>?_|refine zGx rfl rfl rfl rfl rfl fun K_ hK_=>?_);simp only [zAz,zDx,zGz,↓reduceIte,reduceCtorEq,Nat.reduceEqDiff,Bool.not_true,Bool.not_false];refine hK_ _ ?_;clear hK_ K_)
  | refine zDv (by decide) ?_
  | ((try first|refine zKx rfl rfl rfl ?_|refine zIv rfl rfl ?_|refine zKw rfl rfl rfl ?_|refine zJy rfl rfl ?_);(refine zIw fun Q_ hQ_=>?_;simp (disch:=first|omega|(simp only [List.length_cons,List.length_nil,List.length_append];omega)) only [bb,bp,zLx,↓reduceIte,reduceCtorEq,Nat.reduceEqDiff,Nat.reduceLT,Nat.reduceLeDiff,Nat.reduceAdd,Nat.reduceMul,Nat.reduceSub,Nat.reduceBEq,Int.reduceToNat,cond_true,cond_false,eq_self,beq_self_eq_true,lv1,g0,g1,g5,g6,g8,g9,g10,g11,g12,g13,f1,f2,ixi,lxi,hmod,xOw n2,zFw wf,zGy wf,zBv wf,zFx wf,zAy wf,zAw,tEvZ28,zIy,zIz,zHv,zHw,zAv wf];first|(refine zCw (Q:=Q_) (fun hp_=>?_) (fun hp_=>?_) <;> first|(exfalso;omega)|(refine hQ_ _ _ ?_;clear hQ_ Q_))|(refine zBw (Q:=Q_) (fun hp_=>?_) (fun hp_=>?_) <;> first|(exfalso;omega)|(refine hQ_ _ _ ?_;clear hQ_ Q_))|(refine hQ_ _ _ ?_;clear hQ_ Q_)))
  | (refine zHy fun K_ hK_=>?_;simp (disch:=omega) only [zFv,zAz,zHx,↓reduceIte,reduceCtorEq,Nat.reduceEqDiff,Nat.reduceLT];refine hK_ _ ?_;clear hK_ K_)))
          exact zKz (i+1) (by omega) ⟨hlt,by simp only [zAz,↓reduceIte,reduceCtorEq,Nat.reduceEqDiff];exact g0,by simp only [zAz,↓reduceIte,reduceCtorEq,Nat.reduceEqDiff];exact g1,by simp only [zAz,↓reduceIte,reduceCtorEq,Nat.reduceEqDiff];exact g5,by simp only [zAz,↓reduceIte,reduceCtorEq,Nat.reduceEqDiff];exact g6,by simp only [zAz,↓reduceIte,reduceCtorEq,Nat.reduceEqDiff];rw [e1s],by simp only [zAz,↓reduceIte,reduceCtorEq,Nat.reduceEqDiff];rw [e2s],by simp only [zAz,↓reduceIte,reduceCtorEq,Nat.reduceEqDiff];rfl,rfl,va',vb',vc',Lc,L.length+1,La.length+1,Lb.length+1,wc,by simp only [zAz,↓reduceIte,reduceCtorEq,Nat.reduceEqDiff],by simp only [zAz,↓reduceIte,reduceCtorEq,Nat.reduceEqDiff],by simp only [zAz,↓reduceIte,reduceCtorEq,Nat.reduceEqDiff],oa3,ob3,oc',.inr ⟨by omega,by omega,by omega,by omega,by omega,by omega,by omega,by omega,by omega⟩,by omega,l1c,hwc1,by omega,rfl⟩
        · have hback:=sp_back s (k:=i) (by omega) hlt
          have lxn:=fun w=>ld1 l1c (n - i) (by omega) w
          have ixn:=ix1 (n - i) (by omega)
          have hnmi:(n:Int) - (i:Int)=((n - i:Nat):Int):=by omega
          rw [← hback] at lxn
          have hpos:(0:Int)<(i:Int):=by omega
          refine zPy [.full,.full,.full,.no,.no,.no,.no,.no,.no,.no,.no,.no,.no,.full,.full,.full,.full,.full,.full,.full,.no,.full,.full,.full,.full,.full,.full,.full,.no,.no,.full,.full,.full,.no,.full,.full,.full,.full,.full,.full,.full,.full] (by kernel_rfl) ?_
          (repeat' (first
  | (with_reducible first|refine zJw ?_|refine zGv ?_|refine zFz ?_|refine zEv ?_|refine zFy ?_|refine zJv ?_|refine zHz ?_|refine zCz ?_|refine zDw ?_|refine zCy ?_|refine zCv ?_|refine zEx ?_|refine zDz ?_|refine zCx ?_|refine zBx ?_|refine zEz ?_|refine zEy ?_|refine zBz ?_|refine zBy ?_)
  | refine zDy ?_|refine zEw rfl ?_|refine zJz ?_|refine zJx ?_
  | ((first|refine zGw rfl rfl rfl rfl rfl fun K_ hK_=>?_|refine zGx rfl rfl rfl rfl rfl fun K_ hK_=>?_);simp only [zAz,zDx,zGz,↓reduceIte,reduceCtorEq,Nat.reduceEqDiff,Bool.not_true,Bool.not_false];refine hK_ _ ?_;clear hK_ K_)
  | refine zDv (by decide) ?_
  | ((try first|refine zKx rfl rfl rfl ?_|refine zIv rfl rfl ?_|refine zKw rfl rfl rfl ?_|refine zJy rfl rfl ?_);(refine zIw fun Q_ hQ_=>?_;simp (disch:=first|omega|(simp only [List.length_cons,List.length_nil,List.length_append];omega)) only [bb,bp,zLx,↓reduceIte,reduceCtorEq,Nat.reduceEqDiff,Nat.reduceLT,Nat.reduceLeDiff,Nat.reduceAdd,Nat.reduceMul,Nat.reduceSub,Nat.reduceBEq,Int.reduceToNat,cond_true,cond_false,eq_self,beq_self_eq_true,lv1,g0,g1,g5,g6,g8,g9,g10,g11,g12,g13,f1,f2,ixi,lxi,hmod,xOw n2,hnmi,ixn,lxn,zFw wf,zGy wf,zBv wf,zFx wf,zAy wf,zAw,tEvZ28,zIy,zIz,zHv,zHw,zAv wf];first|(refine zCw (Q:=Q_) (fun hp_=>?_) (fun hp_=>?_) <;> first|(exfalso;omega)|(refine hQ_ _ _ ?_;clear hQ_ Q_))|(refine zBw (Q:=Q_) (fun hp_=>?_) (fun hp_=>?_) <;> first|(exfalso;omega)|(refine hQ_ _ _ ?_;clear hQ_ Q_))|(refine hQ_ _ _ ?_;clear hQ_ Q_)))
  | (refine zHy fun K_ hK_=>?_;simp (disch:=omega) only [zFv,zAz,zHx,↓reduceIte,reduceCtorEq,Nat.reduceEqDiff,Nat.reduceLT];refine hK_ _ ?_;clear hK_ K_)))
          exact zKz (i+1) (by omega) ⟨hlt,by simp only [zAz,↓reduceIte,reduceCtorEq,Nat.reduceEqDiff];exact g0,by simp only [zAz,↓reduceIte,reduceCtorEq,Nat.reduceEqDiff];exact g1,by simp only [zAz,↓reduceIte,reduceCtorEq,Nat.reduceEqDiff];exact g5,by simp only [zAz,↓reduceIte,reduceCtorEq,Nat.reduceEqDiff];exact g6,by simp only [zAz,↓reduceIte,reduceCtorEq,Nat.reduceEqDiff];rw [e1s],by simp only [zAz,↓reduceIte,reduceCtorEq,Nat.reduceEqDiff];rw [e2s],by simp only [zAz,↓reduceIte,reduceCtorEq,Nat.reduceEqDiff];rfl,rfl,va',vb',vc',Lc,L.length+1,La.length+1,Lb.length+1,wc,by simp only [zAz,↓reduceIte,reduceCtorEq,Nat.reduceEqDiff],by simp only [zAz,↓reduceIte,reduceCtorEq,Nat.reduceEqDiff],by simp only [zAz,↓reduceIte,reduceCtorEq,Nat.reduceEqDiff],oa3,ob3,oc',.inr ⟨by omega,by omega,by omega,by omega,by omega,by omega,by omega,by omega,by omega⟩,by omega,l1c,hwc1,by omega,rfl⟩
      · have hin:i=n:=by omega
        subst hin
        have hS:IntKind.i64.wrap (sm i (fun j=>ee (s j)) * sm i (fun j=>ee (s j)))=sm i (fun j=>ee (s j)) * sm i (fun j=>ee (s j)):=by
          have b1:=xXw (f:=fun j=>ee (s j)) (b:=1) (fun j=>ee_bound _) i
          have b2:=sq_bound (x:=sm i (fun j=>ee (s j))) (b:=128) ⟨by omega,by omega⟩
          rw [xOv _ (by omega) (by omega)]
        have hall:sm i (sp i s)=sm i (fun j=>ee (s j)) * sm i (fun j=>ee (s j)):=sp_all s
        rw [hall] at g12
        generalize sm i (fun j=>ee (s j))=S1 at *
        obtain ⟨SS,hSS⟩ : ∃ SS,S1 * S1=SS:=⟨_,rfl⟩
        rw [hSS] at g12
        have hS:IntKind.i64.wrap (S1 * S1)=SS:=hS.trans hSS
        clear hSS hall
        obtain ⟨ga1,ga2⟩:=oa.flat
        obtain ⟨gb1,gb2⟩:=ob.flat
        obtain ⟨gc1,gc2⟩:=oc.flat
        have hst:Sl (X h L w) (.sl (nx h 1) 0 i (some i) 1) 1 (spL (bitL xs) i).length ((spL (bitL xs) i).map ii):=by
          rw [xEw]
          exact Sl.new wf (by rw [List.length_map,xEw,Nat.mul_one]) hL1
        have spec : ∀ (fb:Nat→Bool) (idx:Nat) (v:AV),Own h L idx ((mL fb i).map bi) v→(∀ k,k<i→sp i fb k=sp i s k) → ∀ (O:AO) (G:List AO) (w:Nat),w≤h.clock+(L.length+(G.length+1)) → ∃ My vy,(AV.cells vy=[vy]∧oneB vy=true)∧(om Try.prog KK).call (.fn 34 [v]) (X h (L++O :: G) w) = .ok (.tup [vy,ii 0]) (X h (L++O :: (G++My)) w)∧(om Try.prog KK).call (.fn 20 [.sl (nx h 1) 0 i (some i) 1,vy]) (X h (L++O :: (G++My)) w) = .ok (.bool true) (X h (L++O :: (G++My)) w):=fun fb idx v own hfb O G w hw=>by
          have wfG:Wf (X h (L++O :: G) w):=wf.X (by simp only [List.length_append,List.length_cons];omega)
          have own2:Own h (L++O :: G) idx ((mL fb i).map bi) v:=own.keep fun _ o ho=>by rw [List.getElem?_append_left (zOz ho)];exact ho
          have slv:=own2.sl wf w
          rw [List.length_map,xCz] at slv
          obtain ⟨My,vy,hsy,ey⟩:=spec_any (lI fb i) (lI_ok fb hx1) (by rw [lI_len];exact h0) v _ wfG (by rw [lI_len,map_bi];exact slv)
          rw [X_X,X_w] at ey
          simp only [X_X] at hsy
          have hspe:spL (bitL (lI fb i)) (lI fb i).length=spL (bitL xs) i:=by
            rw [lI_len]
            refine spL_congr (by rw [zPz,lI_len]) hxl fun k hk=>?_
            rw [hsq,← hfb k hk]
            exact sp_congr hk fun j hj=>lI_sq fb hj
          rw [hspe] at hsy
          simp only [List.append_assoc,List.cons_append] at ey hsy
          have hsy0:=hsy [] w
          rw [List.append_nil] at hsy0
          refine ⟨My,vy,yXy hsy0,ey,?_⟩
          have hv1:Sl (X h (L++O :: (G++My)) w) (.sl (nx h 1) 0 i (some i) 1) 1 (spL (bitL xs) i).length ((spL (bitL xs) i).map ii):=by
            rw [xEw]
            exact Sl.new wf (by rw [List.length_map,xEw,Nat.mul_one]) (by rw [List.getElem?_append_left (zOz hL1)];exact hL1)
          rw [ints _ _ (by rw [xEw];omega) _ vy _ (wf.X (by simp only [List.length_append,List.length_cons];omega)) hv1 hsy0,decide_eq_true rfl]
        have specA:=spec _ ia va oa fun k hk=>sp_turn s htl hk
        have specB:=spec _ ib vb ob fun k hk=>sp_rev s hk
        have specC:=spec _ ic vc oc fun k hk=>sp_not s k
        (repeat' (first
  | (with_reducible first|refine zJw ?_|refine zGv ?_|refine zFz ?_|refine zEv ?_|refine zFy ?_|refine zJv ?_|refine zHz ?_|refine zCz ?_|refine zDw ?_|refine zCy ?_|refine zCv ?_|refine zEx ?_|refine zDz ?_|refine zCx ?_|refine zBx ?_|refine zEz ?_|refine zEy ?_|refine zBz ?_|refine zBy ?_)
  | refine zDy ?_|refine zEw rfl ?_|refine zJz ?_|refine zJx ?_
  | ((first|refine zGw rfl rfl rfl rfl rfl fun K_ hK_=>?_|refine zGx rfl rfl rfl rfl rfl fun K_ hK_=>?_);simp only [zAz,zDx,zGz,↓reduceIte,reduceCtorEq,Nat.reduceEqDiff,Bool.not_true,Bool.not_false];refine hK_ _ ?_;clear hK_ K_)
  | refine zDv (by decide) ?_
  | ((try first|refine zKx rfl rfl rfl ?_|refine zIv rfl rfl ?_|refine zKw rfl rfl rfl ?_|refine zJy rfl rfl ?_);(refine zIw fun Q_ hQ_=>?_;simp (disch:=first|omega|(simp only [List.length_cons,List.length_nil,List.length_append];omega)) only [bb,bp,zLx,↓reduceIte,reduceCtorEq,Nat.reduceEqDiff,Nat.reduceLT,Nat.reduceLeDiff,Nat.reduceAdd,Nat.reduceMul,Nat.reduceSub,Nat.reduceBEq,Int.reduceToNat,cond_true,cond_false,eq_self,beq_self_eq_true,hl,lv1,hS,ga1,ga2,gb1,gb2,gc1,gc2,g0,g1,g5,g6,g8,g9,g10,g11,g12,g13,f1,f2,zFw wf,zGy wf,zBv wf,zFx wf,zAy wf,zAw,tEvZ28,zIy,zIz,zHv,zHw,zAv wf];first|(refine zCw (Q:=Q_) (fun hp_=>?_) (fun hp_=>?_) <;> first|(exfalso;omega)|(refine hQ_ _ _ ?_;clear hQ_ Q_))|(refine zBw (Q:=Q_) (fun hp_=>?_) (fun hp_=>?_) <;> first|(exfalso;omega)|(refine hQ_ _ _ ?_;clear hQ_ Q_))|(refine hQ_ _ _ ?_;clear hQ_ Q_)))
  | (refine zHy fun K_ hK_=>?_;simp (disch:=omega) only [zFv,zAz,zHx,↓reduceIte,reduceCtorEq,Nat.reduceEqDiff,Nat.reduceLT];refine hK_ _ ?_;clear hK_ K_)))
        have ixc : ∀ c:Nat,c<3→indexAddrE Try.prog 42 (.sl (nx h L.length) 0 3 (some 3) 1) (.int .i64 (c:Int))=some (.ptr (nx h L.length) c):=fun c hc=>by
          have ht:toNatE (.int .i64 (c:Int))=some c:=by rw [yWy (by omega),Int.toNat_natCast]
          simp only [zRv,ht,zTx,yUz hc,Nat.zero_add,Nat.mul_one]
        have ixc0:indexAddrE Try.prog 42 (.sl (nx h L.length) 0 3 (some 3) 1) (.int .i64 0)=some (.ptr (nx h L.length) 0):=ixc 0 (by decide)
        have ixc1:indexAddrE Try.prog 42 (.sl (nx h L.length) 0 3 (some 3) 1) (.int .i64 1)=some (.ptr (nx h L.length) 1):=ixc 1 (by decide)
        have ixc2:indexAddrE Try.prog 42 (.sl (nx h L.length) 0 3 (some 3) 1) (.int .i64 2)=some (.ptr (nx h L.length) 2):=ixc 2 (by decide)
        have ldc : ∀ c G w,load1 (nx h L.length) c (X h (L++AO.cells (zAx [va,vb,vc]) 22 :: G) w)=[va,vb,vc][c]?:=fun c G w=>by
          rw [zGy wf,xAy]
          show cellAt (some (AO.cells (zAx [va,vb,vc]) 22)) c=_
          rw [yUv]
        have ldc0:=ldc 0
        have ldc1:=ldc 1
        have ldc2:=ldc 2
        refine zQx (α:=Nat) (fun (c:Nat) f d h'=>c≤3∧f 6 = .sl (nx h 1) 0 i (some i) 1∧f 14 = .sl (nx h L.length) 0 3 (some 3) 1∧f 15=ii (c:Int)∧d=[] ∧ ∃ G w,h.clock≤w∧w≤h.clock+(L.length+(G.length+1))∧h'=X h (L++AO.cells (zAx [va,vb,vc]) 22 :: G) w) (fun c=>3 - c) ?_ 4 0 (by omega) ?_
        · rintro c f d h' ⟨hc,g6,g14,g15,rfl,G,w1,hw3,hw4,rfl⟩
          rcases (by omega:c=0∨c=1∨c=2∨c=3) with rfl|rfl|rfl|rfl
          · have g15:f 15 = .int .i64 0:=g15
            obtain ⟨My,vy,⟨fy1,fy2⟩,ey,ey2⟩:=specA (.cells (zAx [va,vb,vc]) 22) G w1 hw4
            (repeat' (first
  | (with_reducible first|refine zJw ?_|refine zGv ?_|refine zFz ?_|refine zEv ?_|refine zFy ?_|refine zJv ?_|refine zHz ?_|refine zCz ?_|refine zDw ?_|refine zCy ?_|refine zCv ?_|refine zEx ?_|refine zDz ?_|refine zCx ?_|refine zBx ?_|refine zEz ?_|refine zEy ?_|refine zBz ?_|refine zBy ?_)
  | refine zDy ?_|refine zEw rfl ?_|refine zJz ?_|refine zJx ?_
  | ((first|refine zGw rfl rfl rfl rfl rfl fun K_ hK_=>?_|refine zGx rfl rfl rfl rfl rfl fun K_ hK_=>?_);simp only [zAz,zDx,zGz,↓reduceIte,reduceCtorEq,Nat.reduceEqDiff,Bool.not_true,Bool.not_false];refine hK_ _ ?_;clear hK_ K_)
  | refine zDv (by decide) ?_
  | ((try first|refine zKx rfl rfl rfl ?_|refine zIv rfl rfl ?_|refine zKw rfl rfl rfl ?_|refine zJy rfl rfl ?_);(refine zIw fun Q_ hQ_=>?_;simp (disch:=first|omega|(simp only [List.length_cons,List.length_nil,List.length_append];omega)) only [bb,bp,zLx,↓reduceIte,reduceCtorEq,Nat.reduceEqDiff,Nat.reduceLT,Nat.reduceLeDiff,Nat.reduceAdd,Nat.reduceMul,Nat.reduceSub,Nat.reduceBEq,Int.reduceToNat,cond_true,cond_false,eq_self,beq_self_eq_true,hl,lv1,ixc0,ldc0,ga1,ga2,gb1,gb2,gc1,gc2,fy1,fy2,g6,g14,g15,f1,f2,zFw wf,zGy wf,zBv wf,zFx wf,zAy wf,zAw,tEvZ28,zIy,zIz,zHv,zHw,zAv wf];first|(refine zCw (Q:=Q_) (fun hp_=>?_) (fun hp_=>?_) <;> first|(exfalso;omega)|(refine hQ_ _ _ ?_;clear hQ_ Q_))|(refine zBw (Q:=Q_) (fun hp_=>?_) (fun hp_=>?_) <;> first|(exfalso;omega)|(refine hQ_ _ _ ?_;clear hQ_ Q_))|(refine hQ_ _ _ ?_;clear hQ_ Q_)|(refine zQv (ey) ?_;refine hQ_ _ _ ?_;clear hQ_ Q_)|(refine zQv (ey2) ?_;refine hQ_ _ _ ?_;clear hQ_ Q_)))
  | (refine zHy fun K_ hK_=>?_;simp (disch:=omega) only [zFv,zAz,zHx,↓reduceIte,reduceCtorEq,Nat.reduceEqDiff,Nat.reduceLT];refine hK_ _ ?_;clear hK_ K_)))
            exact zKz 1 (by omega) ⟨by omega,by simp only [zAz,↓reduceIte,reduceCtorEq,Nat.reduceEqDiff];exact g6,by simp only [zAz,↓reduceIte,reduceCtorEq,Nat.reduceEqDiff];exact g14,by simp only [zAz,↓reduceIte,reduceCtorEq,Nat.reduceEqDiff];rfl,rfl,G++My,w1,hw3,by simp only [List.length_append];omega,rfl⟩
          · have g15:f 15 = .int .i64 1:=g15
            obtain ⟨My,vy,⟨fy1,fy2⟩,ey,ey2⟩:=specB (.cells (zAx [va,vb,vc]) 22) G w1 hw4
            (repeat' (first
  | (with_reducible first|refine zJw ?_|refine zGv ?_|refine zFz ?_|refine zEv ?_|refine zFy ?_|refine zJv ?_|refine zHz ?_|refine zCz ?_|refine zDw ?_|refine zCy ?_|refine zCv ?_|refine zEx ?_|refine zDz ?_|refine zCx ?_|refine zBx ?_|refine zEz ?_|refine zEy ?_|refine zBz ?_|refine zBy ?_)
  | refine zDy ?_|refine zEw rfl ?_|refine zJz ?_|refine zJx ?_
  | ((first|refine zGw rfl rfl rfl rfl rfl fun K_ hK_=>?_|refine zGx rfl rfl rfl rfl rfl fun K_ hK_=>?_);simp only [zAz,zDx,zGz,↓reduceIte,reduceCtorEq,Nat.reduceEqDiff,Bool.not_true,Bool.not_false];refine hK_ _ ?_;clear hK_ K_)
  | refine zDv (by decide) ?_
  | ((try first|refine zKx rfl rfl rfl ?_|refine zIv rfl rfl ?_|refine zKw rfl rfl rfl ?_|refine zJy rfl rfl ?_);(refine zIw fun Q_ hQ_=>?_;simp (disch:=first|omega|(simp only [List.length_cons,List.length_nil,List.length_append];omega)) only [bb,bp,zLx,↓reduceIte,reduceCtorEq,Nat.reduceEqDiff,Nat.reduceLT,Nat.reduceLeDiff,Nat.reduceAdd,Nat.reduceMul,Nat.reduceSub,Nat.reduceBEq,Int.reduceToNat,cond_true,cond_false,eq_self,beq_self_eq_true,hl,lv1,ixc1,ldc1,ga1,ga2,gb1,gb2,gc1,gc2,fy1,fy2,g6,g14,g15,f1,f2,zFw wf,zGy wf,zBv wf,zFx wf,zAy wf,zAw,tEvZ28,zIy,zIz,zHv,zHw,zAv wf];first|(refine zCw (Q:=Q_) (fun hp_=>?_) (fun hp_=>?_) <;> first|(exfalso;omega)|(refine hQ_ _ _ ?_;clear hQ_ Q_))|(refine zBw (Q:=Q_) (fun hp_=>?_) (fun hp_=>?_) <;> first|(exfalso;omega)|(refine hQ_ _ _ ?_;clear hQ_ Q_))|(refine hQ_ _ _ ?_;clear hQ_ Q_)|(refine zQv (ey) ?_;refine hQ_ _ _ ?_;clear hQ_ Q_)|(refine zQv (ey2) ?_;refine hQ_ _ _ ?_;clear hQ_ Q_)))
  | (refine zHy fun K_ hK_=>?_;simp (disch:=omega) only [zFv,zAz,zHx,↓reduceIte,reduceCtorEq,Nat.reduceEqDiff,Nat.reduceLT];refine hK_ _ ?_;clear hK_ K_)))
            exact zKz 2 (by omega) ⟨by omega,by simp only [zAz,↓reduceIte,reduceCtorEq,Nat.reduceEqDiff];exact g6,by simp only [zAz,↓reduceIte,reduceCtorEq,Nat.reduceEqDiff];exact g14,by simp only [zAz,↓reduceIte,reduceCtorEq,Nat.reduceEqDiff];rfl,rfl,G++My,w1,hw3,by simp only [List.length_append];omega,rfl⟩
          · have g15:f 15 = .int .i64 2:=g15
            obtain ⟨My,vy,⟨fy1,fy2⟩,ey,ey2⟩:=specC (.cells (zAx [va,vb,vc]) 22) G w1 hw4
            (repeat' (first
  | (with_reducible first|refine zJw ?_|refine zGv ?_|refine zFz ?_|refine zEv ?_|refine zFy ?_|refine zJv ?_|refine zHz ?_|refine zCz ?_|refine zDw ?_|refine zCy ?_|refine zCv ?_|refine zEx ?_|refine zDz ?_|refine zCx ?_|refine zBx ?_|refine zEz ?_|refine zEy ?_|refine zBz ?_|refine zBy ?_)
  | refine zDy ?_|refine zEw rfl ?_|refine zJz ?_|refine zJx ?_
  | ((first|refine zGw rfl rfl rfl rfl rfl fun K_ hK_=>?_|refine zGx rfl rfl rfl rfl rfl fun K_ hK_=>?_);simp only [zAz,zDx,zGz,↓reduceIte,reduceCtorEq,Nat.reduceEqDiff,Bool.not_true,Bool.not_false];refine hK_ _ ?_;clear hK_ K_)
  | refine zDv (by decide) ?_
  | ((try first|refine zKx rfl rfl rfl ?_|refine zIv rfl rfl ?_|refine zKw rfl rfl rfl ?_|refine zJy rfl rfl ?_);(refine zIw fun Q_ hQ_=>?_;simp (disch:=first|omega|(simp only [List.length_cons,List.length_nil,List.length_append];omega)) only [bb,bp,zLx,↓reduceIte,reduceCtorEq,Nat.reduceEqDiff,Nat.reduceLT,Nat.reduceLeDiff,Nat.reduceAdd,Nat.reduceMul,Nat.reduceSub,Nat.reduceBEq,Int.reduceToNat,cond_true,cond_false,eq_self,beq_self_eq_true,hl,lv1,ixc2,ldc2,ga1,ga2,gb1,gb2,gc1,gc2,fy1,fy2,g6,g14,g15,f1,f2,zFw wf,zGy wf,zBv wf,zFx wf,zAy wf,zAw,tEvZ28,zIy,zIz,zHv,zHw,zAv wf];first|(refine zCw (Q:=Q_) (fun hp_=>?_) (fun hp_=>?_) <;> first|(exfalso;omega)|(refine hQ_ _ _ ?_;clear hQ_ Q_))|(refine zBw (Q:=Q_) (fun hp_=>?_) (fun hp_=>?_) <;> first|(exfalso;omega)|(refine hQ_ _ _ ?_;clear hQ_ Q_))|(refine hQ_ _ _ ?_;clear hQ_ Q_)|(refine zQv (ey) ?_;refine hQ_ _ _ ?_;clear hQ_ Q_)|(refine zQv (ey2) ?_;refine hQ_ _ _ ?_;clear hQ_ Q_)))
  | (refine zHy fun K_ hK_=>?_;simp (disch:=omega) only [zFv,zAz,zHx,↓reduceIte,reduceCtorEq,Nat.reduceEqDiff,Nat.reduceLT];refine hK_ _ ?_;clear hK_ K_)))
            exact zKz 3 (by omega) ⟨by omega,by simp only [zAz,↓reduceIte,reduceCtorEq,Nat.reduceEqDiff];exact g6,by simp only [zAz,↓reduceIte,reduceCtorEq,Nat.reduceEqDiff];exact g14,by simp only [zAz,↓reduceIte,reduceCtorEq,Nat.reduceEqDiff];rfl,rfl,G++My,w1,hw3,by simp only [List.length_append];omega,rfl⟩
          · have g15:f 15 = .int .i64 3:=g15
            (repeat' (first
  | (with_reducible first|refine zJw ?_|refine zGv ?_|refine zFz ?_|refine zEv ?_|refine zFy ?_|refine zJv ?_|refine zHz ?_|refine zCz ?_|refine zDw ?_|refine zCy ?_|refine zCv ?_|refine zEx ?_|refine zDz ?_|refine zCx ?_|refine zBx ?_|refine zEz ?_|refine zEy ?_|refine zBz ?_|refine zBy ?_)
  | refine zDy ?_|refine zEw rfl ?_|refine zJz ?_|refine zJx ?_
  | ((first|refine zGw rfl rfl rfl rfl rfl fun K_ hK_=>?_|refine zGx rfl rfl rfl rfl rfl fun K_ hK_=>?_);simp only [zAz,zDx,zGz,↓reduceIte,reduceCtorEq,Nat.reduceEqDiff,Bool.not_true,Bool.not_false];refine hK_ _ ?_;clear hK_ K_)
  | refine zDv (by decide) ?_
  | ((try first|refine zKx rfl rfl rfl ?_|refine zIv rfl rfl ?_|refine zKw rfl rfl rfl ?_|refine zJy rfl rfl ?_);(refine zIw fun Q_ hQ_=>?_;simp (disch:=first|omega|(simp only [List.length_cons,List.length_nil,List.length_append];omega)) only [bb,bp,zLx,↓reduceIte,reduceCtorEq,Nat.reduceEqDiff,Nat.reduceLT,Nat.reduceLeDiff,Nat.reduceAdd,Nat.reduceMul,Nat.reduceSub,Nat.reduceBEq,Int.reduceToNat,cond_true,cond_false,eq_self,beq_self_eq_true,hl,lv1,g6,g14,g15,f1,f2,zFw wf,zGy wf,zBv wf,zFx wf,zAy wf,zAw,tEvZ28,zIy,zIz,zHv,zHw,zAv wf];first|(refine zCw (Q:=Q_) (fun hp_=>?_) (fun hp_=>?_) <;> first|(exfalso;omega)|(refine hQ_ _ _ ?_;clear hQ_ Q_))|(refine zBw (Q:=Q_) (fun hp_=>?_) (fun hp_=>?_) <;> first|(exfalso;omega)|(refine hQ_ _ _ ?_;clear hQ_ Q_))|(refine hQ_ _ _ ?_;clear hQ_ Q_)|(refine zQv (works _) ?_;refine hQ_ _ _ ?_;clear hQ_ Q_)))
  | (refine zHy fun K_ hK_=>?_;simp (disch:=omega) only [zFv,zAz,zHx,↓reduceIte,reduceCtorEq,Nat.reduceEqDiff,Nat.reduceLT];refine hK_ _ ?_;clear hK_ K_)))
            (refine zKy _ _ rfl (ret1 (by decide)) ?_;simp only [zAz,↓reduceIte,reduceCtorEq,Nat.reduceEqDiff];refine zLy rfl (by omega) ?_)
            exact ⟨rfl,rfl⟩
        · exact ⟨by omega,by simp only [zAz,↓reduceIte,reduceCtorEq,Nat.reduceEqDiff];exact g6,by simp only [zAz,↓reduceIte,reduceCtorEq,Nat.reduceEqDiff],by simp only [zAz,↓reduceIte,reduceCtorEq,Nat.reduceEqDiff];try rfl,rfl,[],w,hw,by omega,rfl⟩
    · exact ⟨Nat.zero_le _,by simp only [zAz,↓reduceIte,reduceCtorEq,Nat.reduceEqDiff],by simp only [zAz,↓reduceIte,reduceCtorEq,Nat.reduceEqDiff],by simp only [zAz,↓reduceIte,reduceCtorEq,Nat.reduceEqDiff],by simp only [zAz,↓reduceIte,reduceCtorEq,Nat.reduceEqDiff],by simp only [zAz,↓reduceIte,reduceCtorEq,Nat.reduceEqDiff];try rfl,by simp only [zAz,↓reduceIte,reduceCtorEq,Nat.reduceEqDiff];try rfl,by simp only [zAz,↓reduceIte,reduceCtorEq,Nat.reduceEqDiff];try rfl,rfl,.nils,.nils,.nils,M,0,0,0,h.clock,by simp only [zAz,↓reduceIte,reduceCtorEq,Nat.reduceEqDiff],by simp only [zAz,↓reduceIte,reduceCtorEq,Nat.reduceEqDiff],by simp only [zAz,↓reduceIte,reduceCtorEq,Nat.reduceEqDiff],.inl ⟨rfl,rfl⟩,.inl ⟨rfl,rfl⟩,.inl ⟨rfl,rfl⟩,.inl rfl,by have:=zOz hM1;omega,hM1,Nat.le_refl _,by omega,rfl⟩
  · by_cases hx:errB xs=0
    · rw [decide_eq_true hx] at cf1
      have h0:(xs.length:Int)=0:=by omega
      (repeat' (first
  | (with_reducible first|refine zJw ?_|refine zGv ?_|refine zFz ?_|refine zEv ?_|refine zFy ?_|refine zJv ?_|refine zHz ?_|refine zCz ?_|refine zDw ?_|refine zCy ?_|refine zCv ?_|refine zEx ?_|refine zDz ?_|refine zCx ?_|refine zBx ?_|refine zEz ?_|refine zEy ?_|refine zBz ?_|refine zBy ?_)
  | refine zDy ?_|refine zEw rfl ?_|refine zJz ?_|refine zJx ?_
  | ((first|refine zGw rfl rfl rfl rfl rfl fun K_ hK_=>?_|refine zGx rfl rfl rfl rfl rfl fun K_ hK_=>?_);simp only [zAz,zDx,zGz,↓reduceIte,reduceCtorEq,Nat.reduceEqDiff,Bool.not_true,Bool.not_false];refine hK_ _ ?_;clear hK_ K_)
  | refine zDv (by decide) ?_
  | ((try first|refine zKx rfl rfl rfl ?_|refine zIv rfl rfl ?_|refine zKw rfl rfl rfl ?_|refine zJy rfl rfl ?_);(refine zIw fun Q_ hQ_=>?_;simp (disch:=first|omega|(simp only [List.length_cons,List.length_nil,List.length_append];omega)) only [bb,bp,zLx,↓reduceIte,reduceCtorEq,Nat.reduceEqDiff,Nat.reduceLT,Nat.reduceLeDiff,Nat.reduceAdd,Nat.reduceMul,Nat.reduceSub,Nat.reduceBEq,Int.reduceToNat,cond_true,cond_false,eq_self,beq_self_eq_true,hl,h0,f1,f2,zFw wf,zGy wf,zBv wf,zFx wf,zAy wf,zAw,tEvZ28,zIy,zIz,zHv,zHw,zAv wf];first|(refine zCw (Q:=Q_) (fun hp_=>?_) (fun hp_=>?_) <;> first|(exfalso;omega)|(refine hQ_ _ _ ?_;clear hQ_ Q_))|(refine zBw (Q:=Q_) (fun hp_=>?_) (fun hp_=>?_) <;> first|(exfalso;omega)|(refine hQ_ _ _ ?_;clear hQ_ Q_))|(refine hQ_ _ _ ?_;clear hQ_ Q_)|(refine zQv (cf1 _ _ (by first|omega|(simp only [List.length_append,List.length_cons,List.length_nil];omega))) ?_;refine hQ_ _ _ ?_;clear hQ_ Q_)|(refine zQv (works _) ?_;refine hQ_ _ _ ?_;clear hQ_ Q_)))
  | (refine zHy fun K_ hK_=>?_;simp (disch:=omega) only [zFv,zAz,zHx,↓reduceIte,reduceCtorEq,Nat.reduceEqDiff,Nat.reduceLT];refine hK_ _ ?_;clear hK_ K_)))
      all_goals (refine zKy _ _ rfl (ret1 (by decide)) ?_;simp only [zAz,↓reduceIte,reduceCtorEq,Nat.reduceEqDiff];refine zLy rfl (by omega) ?_)
      all_goals exact ⟨rfl,rfl⟩
    · rw [decide_eq_false hx] at cf1
      (repeat' (first
  | (with_reducible first|refine zJw ?_|refine zGv ?_|refine zFz ?_|refine zEv ?_|refine zFy ?_|refine zJv ?_|refine zHz ?_|refine zCz ?_|refine zDw ?_|refine zCy ?_|refine zCv ?_|refine zEx ?_|refine zDz ?_|refine zCx ?_|refine zBx ?_|refine zEz ?_|refine zEy ?_|refine zBz ?_|refine zBy ?_)
  | refine zDy ?_|refine zEw rfl ?_|refine zJz ?_|refine zJx ?_
  | ((first|refine zGw rfl rfl rfl rfl rfl fun K_ hK_=>?_|refine zGx rfl rfl rfl rfl rfl fun K_ hK_=>?_);simp only [zAz,zDx,zGz,↓reduceIte,reduceCtorEq,Nat.reduceEqDiff,Bool.not_true,Bool.not_false];refine hK_ _ ?_;clear hK_ K_)
  | refine zDv (by decide) ?_
  | ((try first|refine zKx rfl rfl rfl ?_|refine zIv rfl rfl ?_|refine zKw rfl rfl rfl ?_|refine zJy rfl rfl ?_);(refine zIw fun Q_ hQ_=>?_;simp (disch:=first|omega|(simp only [List.length_cons,List.length_nil,List.length_append];omega)) only [bb,bp,zLx,↓reduceIte,reduceCtorEq,Nat.reduceEqDiff,Nat.reduceLT,Nat.reduceLeDiff,Nat.reduceAdd,Nat.reduceMul,Nat.reduceSub,Nat.reduceBEq,Int.reduceToNat,cond_true,cond_false,eq_self,beq_self_eq_true,hl,f1,f2,zFw wf,zGy wf,zBv wf,zFx wf,zAy wf,zAw,tEvZ28,zIy,zIz,zHv,zHw,zAv wf];first|(refine zCw (Q:=Q_) (fun hp_=>?_) (fun hp_=>?_) <;> first|(exfalso;omega)|(refine hQ_ _ _ ?_;clear hQ_ Q_))|(refine zBw (Q:=Q_) (fun hp_=>?_) (fun hp_=>?_) <;> first|(exfalso;omega)|(refine hQ_ _ _ ?_;clear hQ_ Q_))|(refine hQ_ _ _ ?_;clear hQ_ Q_)|(refine zQv (cf1 _ _ (by first|omega|(simp only [List.length_append,List.length_cons,List.length_nil];omega))) ?_;refine hQ_ _ _ ?_;clear hQ_ Q_)|(refine zQv (works _) ?_;refine hQ_ _ _ ?_;clear hQ_ Q_)))
  | (refine zHy fun K_ hK_=>?_;simp (disch:=omega) only [zFv,zAz,zHx,↓reduceIte,reduceCtorEq,Nat.reduceEqDiff,Nat.reduceLT];refine hK_ _ ?_;clear hK_ K_)))
      all_goals (refine zKy _ _ rfl (ret1 (by decide)) ?_;simp only [zAz,↓reduceIte,reduceCtorEq,Nat.reduceEqDiff];refine zLy rfl (by omega) ?_)
      all_goals exact ⟨rfl,rfl⟩
end Go.Proofs.Ytmincoafjnnkpaa
end

section
namespace Go.Proofs.Ytmincoafjnnkpaa.waveSpectrum
open Go.ChangeShapes Go.WideShapes Go.ChangeAt Go.RowKit Go.Ev
set_option maxRecDepth 100000
set_option maxHeartbeats 0

theorem contract (H:Type) (enc:TypeId × Value→H) (W:World) (base:Nat) (args:Array Value) (ds gs:List (DataW H)) (before:List MemPlace) (hval : ∀ (j:Nat) t v,Try.f12.params[j]? = some t→args[j]? = some v→Value.okWide Try.prog W .any base t v)
    (hW:DataW.Whole enc Try.prog Try.f12.params.toList Rows.waveSpectrumSpec.vars false W args.toList ds gs before) :
    Calls Try.prog 12 args W fun e W'=>∃ v,e = .returned v∧Rows.waveSpectrumSpec.post enc Try.prog Try.f12 false true false false W args v W':=by
  have hW':=hW
  obtain ⟨p,q,hA0,hV,rfl,hfz,hnd⟩:=hW
  have hA:DataW.TrodAll enc Try.prog W 0 (fun _=>true) true Try.f12.params.toList args.toList ds p:=hA0
  rw [Try.params12] at hA hval
  obtain ⟨v0,v1,d0,d1,p0,p1,rfl,rfl,rfl,⟨n0,h0⟩,⟨n1,h1⟩⟩:=trodAll_two hA
  have k0:=(okWide_cell (P:=Try.prog) Try.underlying22 (fun _ e=>by cases e) (fun _ _ e=>by cases e) (hval 0 22 v0 rfl rfl))
  rw [slice_cells Try.underlying22 k0] at h0
  obtain ⟨a0,ls0,w0,q0,x0⟩:=ints_in k0 h0
  obtain ⟨r1,hz1,hr1⟩:=okWideIntIn Try.underlying5 (okWide_cell (P:=Try.prog) Try.underlying5 (fun _ e=>by cases e) (fun _ _ e=>by cases e) (hval 1 5 v1 rfl rfl))
  subst hz1
  have walk:=lawSpectrum ls0 r1 hr1 a0 (startW W) (startW_wf W) x0
  have hargs:VL (startWR W) [a0,.int .u8 r1] (#[v0,.int .u8 r1]:Array Value).toList:=(.cons _ _ _ _ w0 (.cons _ _ _ _ (.int _ _) .nil))
  refine (startW_true (P:=Try.prog) mixed (K:=KK) (fun c hc=>by
    have:c=cW:=List.mem_singleton.1 hc
    rw [this];exact cW_ok) walk hargs).mono fun e W' ⟨he,hgr,hs⟩=>?_
  subst he
  refine ⟨_,rfl,law_post laidOut (by
    rw [Try.params12]
    intro t ht
    rcases List.mem_cons.1 ht with rfl|ht
    · exact ⟨by kernel_rfl,of_decide_eq_true (by kernel_rfl)⟩
    rcases List.mem_cons.1 ht with rfl|ht
    · exact ⟨by kernel_rfl,of_decide_eq_true (by kernel_rfl)⟩
    cases ht) rfl (by kernel_rfl) Try.underlying4 (fun gs' ⟨q',hq⟩=>?_) hW' hgr hs⟩
  obtain ⟨rfl,_⟩:=trodVars_none hq
  exact ⟨rfl,rfl,rfl⟩

theorem lifted (os:Os) (started:os.Started) (H:Type) (enc:TypeId × Value→H) :
    ReturnsInHanded {} Try.checked os 12 .any (Rows.waveSpectrumSpec.pre6 enc Try.prog Try.f12 Rows.waveSpectrumRow.domain false) (Rows.waveSpectrumSpec.post enc Try.prog Try.f12 false true false false):=by
  refine returnsInHanded_of_change (C:=Try.checked) own started (by kernel_rfl) Try.func12
    (ChangeSpec.witness6 (enc:=enc) (C:=Try.checked) false ⟨#[],#[.slice none 0 0,.int .u8 0],[]⟩ 8 (by kernel_rfl) (by kernel_rfl) (by kernel_rfl) (by kernel_rfl)) ?_
  intro W base args ds gs before hval hW _ _
  exact contract H enc W base args ds gs before hval hW

theorem holds :Rows.WaveSpectrumSaid:=
  OpenClaim.holds_of_wide 12 Try.f12 rfl rfl rfl rfl rfl rfl rfl ⟨rfl,rfl,rfl,rfl,rfl⟩ rfl rfl rfl rfl rfl (by kernel_rfl) Try.func12 (by kernel_rfl)
    (of_decide_eq_true (by kernel_rfl)) (by unfold Func.isWrapper;first|(rw [if_pos (by decide +kernel)];kernel_rfl)|(rw [if_neg (by decide +kernel)];exact ⟨rfl,rfl⟩))
    (fun os started H enc _=>lifted os started H enc)
end Go.Proofs.Ytmincoafjnnkpaa.waveSpectrum
end
