import Derived.Test.YtmincoafjnnkpaawvM6
set_option linter.all false
section
namespace Go.Proofs.Ytmincoafjnnkpaa
open Go.Ev
set_option maxRecDepth 100000
set_option linter.unusedSimpArgs false
set_option linter.unusedVariables false
set_option maxHeartbeats 2000000
theorem tEvZ5 :type_of% (And.intro (And.intro (And.intro (And.intro (And.intro (And.intro (And.intro (@yQx) (@yQy)) (And.intro (@yQz) (@yPv))) (And.intro (And.intro (@yPw) (@yPx)) (And.intro (@ia_2) (And.intro (@ia_3) (@ia_4))))) (And.intro (And.intro (And.intro (@ia_5) (@yPy)) (And.intro (@yPz) (@yOv))) (And.intro (And.intro (@yOw) (@yOx)) (And.intro (@yOy) (And.intro (@zRv) (@yOz)))))) (And.intro (And.intro (And.intro (And.intro (@yNv) (@yNw)) (And.intro (@yNx) (@yNy))) (And.intro (And.intro (@yNz) (@yMv)) (And.intro (@yMw) (And.intro (@yMx) (@sz_2))))) (And.intro (And.intro (And.intro (@sz_3) (@sz_4)) (And.intro (@sz_5) (And.intro (@zQv) (@zYw)))) (And.intro (And.intro (@zYx) (@zYy)) (And.intro (@zYz) (And.intro (@zXv) (@zRx))))))) (And.intro (And.intro (And.intro (And.intro (And.intro (@zXw) (@zXx)) (And.intro (@zXy) (@zQx))) (And.intro (And.intro (@zXz) (@zWv)) (And.intro (@zWw) (And.intro (@zWx) (@zWy))))) (And.intro (And.intro (And.intro (@ze_2) (@ze_3)) (And.intro (@ze_4) (And.intro (@ze_5) (@zWz)))) (And.intro (And.intro (@zVv) (@zVw)) (And.intro (@zVx) (And.intro (@zVy) (@zVz)))))) (And.intro (And.intro (And.intro (And.intro (@zUv) (@zUw)) (And.intro (@zUx) (@zUy))) (And.intro (And.intro (@zUz) (@zTv)) (And.intro (@zTw) (And.intro (@zTx) (@zTy))))) (And.intro (And.intro (And.intro (@zOy) (@zOz)) (And.intro (@zNv) (And.intro (@zNw) (@zNx)))) (And.intro (And.intro (@zNy) (@zNz)) (And.intro (@zMv) (And.intro (@zMw) (@yMy)))))))) (And.intro (And.intro (And.intro (And.intro (And.intro (And.intro (@yMz) (@yLv)) (And.intro (@yLw) (@yLx))) (And.intro (And.intro (@yLy) (@yLz)) (And.intro (@yKv) (And.intro (@yKw) (@yKx))))) (And.intro (And.intro (And.intro (@yKy) (@yKz)) (And.intro (@yJv) (@yJw))) (And.intro (And.intro (@yJx) (@yJy)) (And.intro (@yJz) (And.intro (@yIv) (@yIw)))))) (And.intro (And.intro (And.intro (And.intro (@yIx) (@yIy)) (And.intro (@yIz) (@yHv))) (And.intro (And.intro (@yHw) (@yHx)) (And.intro (@yHy) (And.intro (@yHz) (@yGv))))) (And.intro (And.intro (And.intro (@yGw) (@yGx)) (And.intro (@yGy) (And.intro (@yGz) (@yFv)))) (And.intro (And.intro (@yFw) (@yFx)) (And.intro (@yFy) (And.intro (@yFz) (@yEv))))))) (And.intro (And.intro (And.intro (And.intro (And.intro (@yEw) (@yEx)) (And.intro (@yEy) (@yEz))) (And.intro (And.intro (@yDv) (@yDw)) (And.intro (@yDx) (And.intro (@yDy) (@yDz))))) (And.intro (And.intro (And.intro (@yCv) (@yCw)) (And.intro (@yCx) (And.intro (@yCy) (@yCz)))) (And.intro (And.intro (@zSz) (@yBv)) (And.intro (@yBw) (And.intro (@yBx) (@yBy)))))) (And.intro (And.intro (And.intro (And.intro (@yBz) (@yAv)) (And.intro (@yAw) (@yAx))) (And.intro (And.intro (@yAy) (@yAz)) (And.intro (@zZv) (And.intro (@zZw) (@zZx))))) (And.intro (And.intro (And.intro (@zZy) (@zZz)) (And.intro (@zQy) (And.intro (@zSv) (@zSw)))) (And.intro (And.intro (@zQw) (@zSx)) (And.intro (@zRy) (And.intro (@zSy) (@zRw))))))))):=And.intro (And.intro (And.intro (And.intro (And.intro (And.intro (And.intro (@yQx) (@yQy)) (And.intro (@yQz) (@yPv))) (And.intro (And.intro (@yPw) (@yPx)) (And.intro (@ia_2) (And.intro (@ia_3) (@ia_4))))) (And.intro (And.intro (And.intro (@ia_5) (@yPy)) (And.intro (@yPz) (@yOv))) (And.intro (And.intro (@yOw) (@yOx)) (And.intro (@yOy) (And.intro (@zRv) (@yOz)))))) (And.intro (And.intro (And.intro (And.intro (@yNv) (@yNw)) (And.intro (@yNx) (@yNy))) (And.intro (And.intro (@yNz) (@yMv)) (And.intro (@yMw) (And.intro (@yMx) (@sz_2))))) (And.intro (And.intro (And.intro (@sz_3) (@sz_4)) (And.intro (@sz_5) (And.intro (@zQv) (@zYw)))) (And.intro (And.intro (@zYx) (@zYy)) (And.intro (@zYz) (And.intro (@zXv) (@zRx))))))) (And.intro (And.intro (And.intro (And.intro (And.intro (@zXw) (@zXx)) (And.intro (@zXy) (@zQx))) (And.intro (And.intro (@zXz) (@zWv)) (And.intro (@zWw) (And.intro (@zWx) (@zWy))))) (And.intro (And.intro (And.intro (@ze_2) (@ze_3)) (And.intro (@ze_4) (And.intro (@ze_5) (@zWz)))) (And.intro (And.intro (@zVv) (@zVw)) (And.intro (@zVx) (And.intro (@zVy) (@zVz)))))) (And.intro (And.intro (And.intro (And.intro (@zUv) (@zUw)) (And.intro (@zUx) (@zUy))) (And.intro (And.intro (@zUz) (@zTv)) (And.intro (@zTw) (And.intro (@zTx) (@zTy))))) (And.intro (And.intro (And.intro (@zOy) (@zOz)) (And.intro (@zNv) (And.intro (@zNw) (@zNx)))) (And.intro (And.intro (@zNy) (@zNz)) (And.intro (@zMv) (And.intro (@zMw) (@yMy)))))))) (And.intro (And.intro (And.intro (And.intro (And.intro (And.intro (@yMz) (@yLv)) (And.intro (@yLw) (@yLx))) (And.intro (And.intro (@yLy) (@yLz)) (And.intro (@yKv) (And.intro (@yKw) (@yKx))))) (And.intro (And.intro (And.intro (@yKy) (@yKz)) (And.intro (@yJv) (@yJw))) (And.intro (And.intro (@yJx) (@yJy)) (And.intro (@yJz) (And.intro (@yIv) (@yIw)))))) (And.intro (And.intro (And.intro (And.intro (@yIx) (@yIy)) (And.intro (@yIz) (@yHv))) (And.intro (And.intro (@yHw) (@yHx)) (And.intro (@yHy) (And.intro (@yHz) (@yGv))))) (And.intro (And.intro (And.intro (@yGw) (@yGx)) (And.intro (@yGy) (And.intro (@yGz) (@yFv)))) (And.intro (And.intro (@yFw) (@yFx)) (And.intro (@yFy) (And.intro (@yFz) (@yEv))))))) (And.intro (And.intro (And.intro (And.intro (And.intro (@yEw) (@yEx)) (And.intro (@yEy) (@yEz))) (And.intro (And.intro (@yDv) (@yDw)) (And.intro (@yDx) (And.intro (@yDy) (@yDz))))) (And.intro (And.intro (And.intro (@yCv) (@yCw)) (And.intro (@yCx) (And.intro (@yCy) (@yCz)))) (And.intro (And.intro (@zSz) (@yBv)) (And.intro (@yBw) (And.intro (@yBx) (@yBy)))))) (And.intro (And.intro (And.intro (And.intro (@yBz) (@yAv)) (And.intro (@yAw) (@yAx))) (And.intro (And.intro (@yAy) (@yAz)) (And.intro (@zZv) (And.intro (@zZw) (@zZx))))) (And.intro (And.intro (And.intro (@zZy) (@zZz)) (And.intro (@zQy) (And.intro (@zSv) (@zSw)))) (And.intro (And.intro (@zQw) (@zSx)) (And.intro (@zRy) (And.intro (@zSy) (@zRw))))))))
abbrev bi (b:Bool):AV:=ii ((b.toNat:Nat):Int)
def bitsL (N m:Nat):List Bool:=(List.range m).map N.testBit
theorem bi_lt (b:Bool):b.toNat<2:=by cases b <;> decide

theorem wordsOf (bs:List Bool) (hb:bs.length≤128) (a:AV) (h:H) (wf:Wf h) (hs:Sl h a 1 bs.length (bs.map bi)):(om Try.prog KK).call (.fn 53 [a]) h = .ok (.agg (wd (bN bs))) h:=by
  have hl : ∀ h',lenE Try.prog 22 a h'=some (ii (bs.length:Int)):=fun h'=>hs.len yTx
  have n64:(64:Int)≠0:=by decide
  refine ySx (zMy (fn:=Try.f53) Try.func53 rfl rfl rfl rfl rfl ?_)
  simp only [zKv]
  (repeat' (first
  | (with_reducible first|refine zJx ?_|refine zGw ?_|refine zFz ?_|refine zEv ?_|refine zFy ?_|refine zJw ?_|refine zGv ?_|refine zCz ?_|refine zDw ?_|refine zCy ?_|refine zCv ?_|refine zEx ?_|refine zDz ?_|refine zCx ?_|refine zBx ?_|refine zEz ?_|refine zEy ?_|refine zAw ?_|refine zBy ?_)
  | refine zDy ?_|refine zEw rfl ?_|refine zIv ?_|refine zJy ?_
  | ((first|refine zGx rfl rfl rfl rfl rfl fun K_ hK_=>?_|refine zGy rfl rfl rfl rfl rfl fun K_ hK_=>?_);simp only [zAz,zDx,zGz,↓reduceIte,reduceCtorEq,Nat.reduceEqDiff,Bool.not_true,Bool.not_false];refine hK_ _ ?_;clear hK_ K_)
  | refine zDv (by decide) ?_
  | ((try first|refine zKy rfl rfl rfl ?_|refine zIw rfl rfl ?_|refine zKx rfl rfl rfl ?_|refine zJz rfl rfl ?_);(refine zIx fun Q_ hQ_=>?_;simp (disch:=first|omega|(simp only [List.length_cons,List.length_nil,List.length_append];omega)) only [bb,bp,zKv,↓reduceIte,reduceCtorEq,Nat.reduceEqDiff,Nat.reduceLT,Nat.reduceLeDiff,Nat.reduceAdd,Nat.reduceMul,Nat.reduceSub,Nat.reduceBEq,Int.reduceToNat,cond_true,cond_false,eq_self,beq_self_eq_true,hl,zFx wf,zHx wf,zBv wf,zFw wf,zAy wf,zAx,tEvZ5,zIy,zIz,zHv,zHw,zAv wf];first|(refine zCw (Q:=Q_) (fun hp_=>?_) (fun hp_=>?_) <;> first|(exfalso;omega)|(refine hQ_ _ _ ?_;clear hQ_ Q_))|(refine zBw (Q:=Q_) (fun hp_=>?_) (fun hp_=>?_) <;> first|(exfalso;omega)|(refine hQ_ _ _ ?_;clear hQ_ Q_))|(refine hQ_ _ _ ?_;clear hQ_ Q_)))
  | (refine zHz fun K_ hK_=>?_;simp (disch:=omega) only [zFv,zAz,zHy,↓reduceIte,reduceCtorEq,Nat.reduceEqDiff,Nat.reduceLT];refine hK_ _ ?_;clear hK_ K_)))
  refine zOw (α:=Nat) (fun (i:Nat) f d h'=>i≤bs.length∧f 2 = .ptr (nx h 0) 0∧f 3 = .ptr (nx h 1) 0∧f 6=a∧f 7=ii (bs.length:Int)∧f 8=ii (i:Int)∧d=[] ∧
    ∃ w,h.clock≤w∧w≤h.clock+2∧h'=X h [.cells (zBz [.int .u64 0,.int .u64 0]) 57,.cells (zBz (wd (bN (bs.take i)))) 57] w) (fun i=>bs.length - i) ?_ (bs.length+1) 0 (by omega) ?_
  · rintro i f d h' ⟨hi,g2,g3,g6,g7,g8,rfl,w,hw,hw2,rfl⟩
    by_cases hlt:i<bs.length
    · obtain ⟨id,off,hix,hld⟩:=hs.at1 wf hlt zQy
      have hld : ∀ l w,load1 id off (X h l w)=some (bi bs[i]):=fun l w=>by
        rw [hld,List.getElem?_map,List.getElem?_eq_getElem hlt];rfl
      have e1:bN (bs.take (i+1))=bN (bs.take i) ||| (bs[i].toNat <<< i):=by
        rw [List.take_succ_eq_append_getElem hlt,bN_snoc,List.length_take,Nat.min_eq_left (by omega)]
      have hA:bN (bs.take i)<2 ^ 128:=bN_lt128 (by rw [List.length_take];omega)
      have hc:=bi_lt bs[i]
      have hcv:=c_ui bs[i].toNat (by omega)
      generalize bN (bs.take i)=A at *
      generalize bs[i]=b at *
      unfold wd
      by_cases h1:i<64
      · have hd:((i:Int)).tdiv 64=0:=by rw [div64,Nat.div_eq_of_lt h1];rfl
        have hm:((i:Int)).tmod 64=(i:Int):=by rw [mod64,Nat.mod_eq_of_lt h1]
        have s1:=set_lo A i b.toNat h1 hc
        have s2:=set_lo_hi A i b.toNat h1 hc
        (repeat' (first
  | (with_reducible first|refine zJx ?_|refine zGw ?_|refine zFz ?_|refine zEv ?_|refine zFy ?_|refine zJw ?_|refine zGv ?_|refine zCz ?_|refine zDw ?_|refine zCy ?_|refine zCv ?_|refine zEx ?_|refine zDz ?_|refine zCx ?_|refine zBx ?_|refine zEz ?_|refine zEy ?_|refine zAw ?_|refine zBy ?_)
  | refine zDy ?_|refine zEw rfl ?_|refine zIv ?_|refine zJy ?_
  | ((first|refine zGx rfl rfl rfl rfl rfl fun K_ hK_=>?_|refine zGy rfl rfl rfl rfl rfl fun K_ hK_=>?_);simp only [zAz,zDx,zGz,↓reduceIte,reduceCtorEq,Nat.reduceEqDiff,Bool.not_true,Bool.not_false];refine hK_ _ ?_;clear hK_ K_)
  | refine zDv (by decide) ?_
  | ((try first|refine zKy rfl rfl rfl ?_|refine zIw rfl rfl ?_|refine zKx rfl rfl rfl ?_|refine zJz rfl rfl ?_);(refine zIx fun Q_ hQ_=>?_;simp (disch:=first|omega|(simp only [List.length_cons,List.length_nil,List.length_append];omega)) only [bb,bp,zKv,↓reduceIte,reduceCtorEq,Nat.reduceEqDiff,Nat.reduceLT,Nat.reduceLeDiff,Nat.reduceAdd,Nat.reduceMul,Nat.reduceSub,Nat.reduceBEq,Int.reduceToNat,cond_true,cond_false,eq_self,beq_self_eq_true,hl,g2,g3,g6,g7,g8,hix,hld,zFx wf,zHx wf,zBv wf,zFw wf,zAy wf,zAx,tEvZ5,zIy,zIz,zHv,zHw,zAv wf];first|(refine zCw (Q:=Q_) (fun hp_=>?_) (fun hp_=>?_) <;> first|(exfalso;omega)|(refine hQ_ _ _ ?_;clear hQ_ Q_))|(refine zBw (Q:=Q_) (fun hp_=>?_) (fun hp_=>?_) <;> first|(exfalso;omega)|(refine hQ_ _ _ ?_;clear hQ_ Q_))|(refine hQ_ _ _ ?_;clear hQ_ Q_)))
  | (refine zHz fun K_ hK_=>?_;simp (disch:=omega) only [zFv,zAz,zHy,↓reduceIte,reduceCtorEq,Nat.reduceEqDiff,Nat.reduceLT];refine hK_ _ ?_;clear hK_ K_)))
        refine zPy [.full,.full,.full,.full,.no,.no,.no,.no,.no,.full,.full,.full] (by kernel_rfl) ?_
        (repeat' (first
  | (with_reducible first|refine zJx ?_|refine zGw ?_|refine zFz ?_|refine zEv ?_|refine zFy ?_|refine zJw ?_|refine zGv ?_|refine zCz ?_|refine zDw ?_|refine zCy ?_|refine zCv ?_|refine zEx ?_|refine zDz ?_|refine zCx ?_|refine zBx ?_|refine zEz ?_|refine zEy ?_|refine zAw ?_|refine zBy ?_)
  | refine zDy ?_|refine zEw rfl ?_|refine zIv ?_|refine zJy ?_
  | ((first|refine zGx rfl rfl rfl rfl rfl fun K_ hK_=>?_|refine zGy rfl rfl rfl rfl rfl fun K_ hK_=>?_);simp only [zAz,zDx,zGz,↓reduceIte,reduceCtorEq,Nat.reduceEqDiff,Bool.not_true,Bool.not_false];refine hK_ _ ?_;clear hK_ K_)
  | refine zDv (by decide) ?_
  | ((try first|refine zKy rfl rfl rfl ?_|refine zIw rfl rfl ?_|refine zKx rfl rfl rfl ?_|refine zJz rfl rfl ?_);(refine zIx fun Q_ hQ_=>?_;simp (disch:=first|omega|(simp only [List.length_cons,List.length_nil,List.length_append];omega)) only [bb,bp,zKv,↓reduceIte,reduceCtorEq,Nat.reduceEqDiff,Nat.reduceLT,Nat.reduceLeDiff,Nat.reduceAdd,Nat.reduceMul,Nat.reduceSub,Nat.reduceBEq,Int.reduceToNat,cond_true,cond_false,eq_self,beq_self_eq_true,hl,g2,g3,g6,g7,g8,b_quo n64,wAy n64,hd,hm,ix0,ix1,hcv,yTy,yXy,yTw,ySy,yTz,ySv,ySw,zFx wf,zHx wf,zBv wf,zFw wf,zAy wf,zAx,tEvZ5,zIy,zIz,zHv,zHw,zAv wf];first|(refine zCw (Q:=Q_) (fun hp_=>?_) (fun hp_=>?_) <;> first|(exfalso;omega)|(refine hQ_ _ _ ?_;clear hQ_ Q_))|(refine zBw (Q:=Q_) (fun hp_=>?_) (fun hp_=>?_) <;> first|(exfalso;omega)|(refine hQ_ _ _ ?_;clear hQ_ Q_))|(refine hQ_ _ _ ?_;clear hQ_ Q_)))
  | (refine zHz fun K_ hK_=>?_;simp (disch:=omega) only [zFv,zAz,zHy,↓reduceIte,reduceCtorEq,Nat.reduceEqDiff,Nat.reduceLT];refine hK_ _ ?_;clear hK_ K_)))
        refine zJv (i+1) (by omega) ⟨hlt,by simp only [zAz,↓reduceIte,reduceCtorEq,Nat.reduceEqDiff];exact g2,by simp only [zAz,↓reduceIte,reduceCtorEq,Nat.reduceEqDiff];exact g3,by simp only [zAz,↓reduceIte,reduceCtorEq,Nat.reduceEqDiff];exact g6,by simp only [zAz,↓reduceIte,reduceCtorEq,Nat.reduceEqDiff];exact g7,by simp only [zAz,↓reduceIte,reduceCtorEq,Nat.reduceEqDiff];rfl,rfl,_,?_,?_,by rw [e1,← s1,← s2]⟩
        all_goals omega
      · have hd:((i:Int)).tdiv 64=1:=by rw [div64,show i / 64=1 by omega];rfl
        have hm:((i:Int)).tmod 64=((i - 64:Nat):Int):=by rw [mod64,show i % 64=i - 64 by omega]
        have s1:=set_hi A i b.toNat ⟨by omega,by omega⟩ hA hc
        have s2:=set_hi_lo A i b.toNat (by omega) hc
        (repeat' (first
  | (with_reducible first|refine zJx ?_|refine zGw ?_|refine zFz ?_|refine zEv ?_|refine zFy ?_|refine zJw ?_|refine zGv ?_|refine zCz ?_|refine zDw ?_|refine zCy ?_|refine zCv ?_|refine zEx ?_|refine zDz ?_|refine zCx ?_|refine zBx ?_|refine zEz ?_|refine zEy ?_|refine zAw ?_|refine zBy ?_)
  | refine zDy ?_|refine zEw rfl ?_|refine zIv ?_|refine zJy ?_
  | ((first|refine zGx rfl rfl rfl rfl rfl fun K_ hK_=>?_|refine zGy rfl rfl rfl rfl rfl fun K_ hK_=>?_);simp only [zAz,zDx,zGz,↓reduceIte,reduceCtorEq,Nat.reduceEqDiff,Bool.not_true,Bool.not_false];refine hK_ _ ?_;clear hK_ K_)
  | refine zDv (by decide) ?_
  | ((try first|refine zKy rfl rfl rfl ?_|refine zIw rfl rfl ?_|refine zKx rfl rfl rfl ?_|refine zJz rfl rfl ?_);(refine zIx fun Q_ hQ_=>?_;simp (disch:=first|omega|(simp only [List.length_cons,List.length_nil,List.length_append];omega)) only [bb,bp,zKv,↓reduceIte,reduceCtorEq,Nat.reduceEqDiff,Nat.reduceLT,Nat.reduceLeDiff,Nat.reduceAdd,Nat.reduceMul,Nat.reduceSub,Nat.reduceBEq,Int.reduceToNat,cond_true,cond_false,eq_self,beq_self_eq_true,hl,g2,g3,g6,g7,g8,hix,hld,zFx wf,zHx wf,zBv wf,zFw wf,zAy wf,zAx,tEvZ5,zIy,zIz,zHv,zHw,zAv wf];first|(refine zCw (Q:=Q_) (fun hp_=>?_) (fun hp_=>?_) <;> first|(exfalso;omega)|(refine hQ_ _ _ ?_;clear hQ_ Q_))|(refine zBw (Q:=Q_) (fun hp_=>?_) (fun hp_=>?_) <;> first|(exfalso;omega)|(refine hQ_ _ _ ?_;clear hQ_ Q_))|(refine hQ_ _ _ ?_;clear hQ_ Q_)))
  | (refine zHz fun K_ hK_=>?_;simp (disch:=omega) only [zFv,zAz,zHy,↓reduceIte,reduceCtorEq,Nat.reduceEqDiff,Nat.reduceLT];refine hK_ _ ?_;clear hK_ K_)))
        refine zPy [.full,.full,.full,.full,.no,.no,.no,.no,.no,.full,.full,.full] (by kernel_rfl) ?_
        (repeat' (first
  | (with_reducible first|refine zJx ?_|refine zGw ?_|refine zFz ?_|refine zEv ?_|refine zFy ?_|refine zJw ?_|refine zGv ?_|refine zCz ?_|refine zDw ?_|refine zCy ?_|refine zCv ?_|refine zEx ?_|refine zDz ?_|refine zCx ?_|refine zBx ?_|refine zEz ?_|refine zEy ?_|refine zAw ?_|refine zBy ?_)
  | refine zDy ?_|refine zEw rfl ?_|refine zIv ?_|refine zJy ?_
  | ((first|refine zGx rfl rfl rfl rfl rfl fun K_ hK_=>?_|refine zGy rfl rfl rfl rfl rfl fun K_ hK_=>?_);simp only [zAz,zDx,zGz,↓reduceIte,reduceCtorEq,Nat.reduceEqDiff,Bool.not_true,Bool.not_false];refine hK_ _ ?_;clear hK_ K_)
  | refine zDv (by decide) ?_
  | ((try first|refine zKy rfl rfl rfl ?_|refine zIw rfl rfl ?_|refine zKx rfl rfl rfl ?_|refine zJz rfl rfl ?_);(refine zIx fun Q_ hQ_=>?_;simp (disch:=first|omega|(simp only [List.length_cons,List.length_nil,List.length_append];omega)) only [bb,bp,zKv,↓reduceIte,reduceCtorEq,Nat.reduceEqDiff,Nat.reduceLT,Nat.reduceLeDiff,Nat.reduceAdd,Nat.reduceMul,Nat.reduceSub,Nat.reduceBEq,Int.reduceToNat,cond_true,cond_false,eq_self,beq_self_eq_true,hl,g2,g3,g6,g7,g8,b_quo n64,wAy n64,hd,hm,ix0,ix1,hcv,yTy,yXy,yTw,ySy,yTz,ySv,ySw,zFx wf,zHx wf,zBv wf,zFw wf,zAy wf,zAx,tEvZ5,zIy,zIz,zHv,zHw,zAv wf];first|(refine zCw (Q:=Q_) (fun hp_=>?_) (fun hp_=>?_) <;> first|(exfalso;omega)|(refine hQ_ _ _ ?_;clear hQ_ Q_))|(refine zBw (Q:=Q_) (fun hp_=>?_) (fun hp_=>?_) <;> first|(exfalso;omega)|(refine hQ_ _ _ ?_;clear hQ_ Q_))|(refine hQ_ _ _ ?_;clear hQ_ Q_)))
  | (refine zHz fun K_ hK_=>?_;simp (disch:=omega) only [zFv,zAz,zHy,↓reduceIte,reduceCtorEq,Nat.reduceEqDiff,Nat.reduceLT];refine hK_ _ ?_;clear hK_ K_)))
        refine zJv (i+1) (by omega) ⟨hlt,by simp only [zAz,↓reduceIte,reduceCtorEq,Nat.reduceEqDiff];exact g2,by simp only [zAz,↓reduceIte,reduceCtorEq,Nat.reduceEqDiff];exact g3,by simp only [zAz,↓reduceIte,reduceCtorEq,Nat.reduceEqDiff];exact g6,by simp only [zAz,↓reduceIte,reduceCtorEq,Nat.reduceEqDiff];exact g7,by simp only [zAz,↓reduceIte,reduceCtorEq,Nat.reduceEqDiff];rfl,rfl,_,?_,?_,by rw [e1,← s1,s2]⟩
        all_goals omega
    · have:i=bs.length:=by omega
      subst this
      rw [List.take_length]
      unfold wd
      (repeat' (first
  | (with_reducible first|refine zJx ?_|refine zGw ?_|refine zFz ?_|refine zEv ?_|refine zFy ?_|refine zJw ?_|refine zGv ?_|refine zCz ?_|refine zDw ?_|refine zCy ?_|refine zCv ?_|refine zEx ?_|refine zDz ?_|refine zCx ?_|refine zBx ?_|refine zEz ?_|refine zEy ?_|refine zAw ?_|refine zBy ?_)
  | refine zDy ?_|refine zEw rfl ?_|refine zIv ?_|refine zJy ?_
  | ((first|refine zGx rfl rfl rfl rfl rfl fun K_ hK_=>?_|refine zGy rfl rfl rfl rfl rfl fun K_ hK_=>?_);simp only [zAz,zDx,zGz,↓reduceIte,reduceCtorEq,Nat.reduceEqDiff,Bool.not_true,Bool.not_false];refine hK_ _ ?_;clear hK_ K_)
  | refine zDv (by decide) ?_
  | ((try first|refine zKy rfl rfl rfl ?_|refine zIw rfl rfl ?_|refine zKx rfl rfl rfl ?_|refine zJz rfl rfl ?_);(refine zIx fun Q_ hQ_=>?_;simp (disch:=first|omega|(simp only [List.length_cons,List.length_nil,List.length_append];omega)) only [bb,bp,zKv,↓reduceIte,reduceCtorEq,Nat.reduceEqDiff,Nat.reduceLT,Nat.reduceLeDiff,Nat.reduceAdd,Nat.reduceMul,Nat.reduceSub,Nat.reduceBEq,Int.reduceToNat,cond_true,cond_false,eq_self,beq_self_eq_true,hl,g2,g3,g6,g7,g8,zFx wf,zHx wf,zBv wf,zFw wf,zAy wf,zAx,tEvZ5,zIy,zIz,zHv,zHw,zAv wf];first|(refine zCw (Q:=Q_) (fun hp_=>?_) (fun hp_=>?_) <;> first|(exfalso;omega)|(refine hQ_ _ _ ?_;clear hQ_ Q_))|(refine zBw (Q:=Q_) (fun hp_=>?_) (fun hp_=>?_) <;> first|(exfalso;omega)|(refine hQ_ _ _ ?_;clear hQ_ Q_))|(refine hQ_ _ _ ?_;clear hQ_ Q_)))
  | (refine zHz fun K_ hK_=>?_;simp (disch:=omega) only [zFv,zAz,zHy,↓reduceIte,reduceCtorEq,Nat.reduceEqDiff,Nat.reduceLT];refine hK_ _ ?_;clear hK_ K_)))
      refine zKw _ _ rfl (retc0 (by decide) (by simp (disch:=first|omega|(simp only [List.length_cons,List.length_nil,List.length_append];omega)) only [bb,bp,zKv,↓reduceIte,reduceCtorEq,Nat.reduceEqDiff,Nat.reduceLT,Nat.reduceLeDiff,Nat.reduceAdd,Nat.reduceMul,Nat.reduceSub,Nat.reduceBEq,Int.reduceToNat,cond_true,cond_false,eq_self,beq_self_eq_true,g2,zBv wf,tEvZ5,zIy,zIz,zHv,zHw,zAv wf];rfl)) ?_
      refine zLy rfl (by omega) ?_
      exact ⟨rfl,rfl⟩
  · exact ⟨by omega,rfl,rfl,rfl,rfl,rfl,rfl,h.clock,by omega,by omega,by rw [List.take_zero];rfl⟩

theorem wd_zero {N:Nat} (hN:N<2 ^ 128):((((N % 2 ^ 64:Nat):Int)=0)∧(((N >>> 64:Nat):Int)=0)) ↔ N=0:=by
  rw [Nat.shiftRight_eq_div_pow]
  omega
theorem eg57 :Try.prog.eqGuardType Try.prog.depth 57=false:=by kernel_rfl
theorem so55 :pureRun Try.prog (sizeOf 55)=some 1:=by kernel_rfl
theorem isNone (N:Nat) (hN:N<2 ^ 128) (h:H) (wf:Wf h):(om Try.prog KK).call (.fn 54 [.agg (wd N)]) h = .ok (.bool (decide (N=0))) h:=by
  have he : ∀ x y (a b:Nat),binE Try.prog .eql 57 x y (.agg [.int .u64 (a:Int),.int .u64 (b:Int)]) (.agg [.int .u64 0,.int .u64 0])=some (.bool (decide ((a:Int)=0∧(b:Int)=0))):=fun x y a b=>b_arr2 un_57 un_55 so55 eg57
  have hz:=wd_zero hN
  refine ySx (zMy (fn:=Try.f54) Try.func54 rfl rfl rfl rfl rfl ?_)
  simp only [zKv]
  unfold wd
  (repeat' (first
  | (with_reducible first|refine zJx ?_|refine zGw ?_|refine zFz ?_|refine zEv ?_|refine zFy ?_|refine zJw ?_|refine zGv ?_|refine zCz ?_|refine zDw ?_|refine zCy ?_|refine zCv ?_|refine zEx ?_|refine zDz ?_|refine zCx ?_|refine zBx ?_|refine zEz ?_|refine zEy ?_|refine zAw ?_|refine zBy ?_)
  | refine zDy ?_|refine zEw rfl ?_|refine zIv ?_|refine zJy ?_
  | ((first|refine zGx rfl rfl rfl rfl rfl fun K_ hK_=>?_|refine zGy rfl rfl rfl rfl rfl fun K_ hK_=>?_);simp only [zAz,zDx,zGz,↓reduceIte,reduceCtorEq,Nat.reduceEqDiff,Bool.not_true,Bool.not_false];refine hK_ _ ?_;clear hK_ K_)
  | refine zDv (by decide) ?_
  | ((try first|refine zKy rfl rfl rfl ?_|refine zIw rfl rfl ?_|refine zKx rfl rfl rfl ?_|refine zJz rfl rfl ?_);(refine zIx fun Q_ hQ_=>?_;simp (disch:=first|omega|(simp only [List.length_cons,List.length_nil,List.length_append];omega)) only [bb,bp,zKv,↓reduceIte,reduceCtorEq,Nat.reduceEqDiff,Nat.reduceLT,Nat.reduceLeDiff,Nat.reduceAdd,Nat.reduceMul,Nat.reduceSub,Nat.reduceBEq,Int.reduceToNat,cond_true,cond_false,eq_self,beq_self_eq_true,he,hz,zFx wf,zHx wf,zBv wf,zFw wf,zAy wf,zAx,tEvZ5,zIy,zIz,zHv,zHw,zAv wf];first|(refine zCw (Q:=Q_) (fun hp_=>?_) (fun hp_=>?_) <;> first|(exfalso;omega)|(refine hQ_ _ _ ?_;clear hQ_ Q_))|(refine zBw (Q:=Q_) (fun hp_=>?_) (fun hp_=>?_) <;> first|(exfalso;omega)|(refine hQ_ _ _ ?_;clear hQ_ Q_))|(refine hQ_ _ _ ?_;clear hQ_ Q_)))
  | (refine zHz fun K_ hK_=>?_;simp (disch:=omega) only [zFv,zAz,zHy,↓reduceIte,reduceCtorEq,Nat.reduceEqDiff,Nat.reduceLT];refine hK_ _ ?_;clear hK_ K_)))
  all_goals (refine zKw _ _ rfl (ret1 (by decide)) ?_;simp only [zAz,↓reduceIte,reduceCtorEq,Nat.reduceEqDiff];refine zLy rfl (by omega) ?_)
  all_goals exact ⟨by simp [*],rfl⟩
def rg (T L:Nat):List AV:=[uu (T % 2 ^ 64),uu (T >>> 64),ii (L:Int)]
theorem registerOf (bs:List Bool) (hb:bs.length≤128) (a:AV) (h:H) (wf:Wf h) (hs:Sl h a 1 bs.length (bs.map bi)):(om Try.prog KK).call (.fn 42 [a]) h = .ok (.agg (rg (bN bs) bs.length)) h:=by
  have hl : ∀ h',lenE Try.prog 22 a h'=some (ii (bs.length:Int)):=fun h'=>hs.len yTx
  have c1 : ∀ l w,w≤h.clock+l.length→(om Try.prog KK).call (.fn 53 [a]) (X h l w) = .ok (.agg [uu (bN bs % 2 ^ 64),uu (bN bs >>> 64)]) (X h l w):=fun l w hw=>wordsOf bs hb a _ (wf.X hw) (hs.up wf l w)
  refine ySx (zMy (fn:=Try.f42) Try.func42 rfl rfl rfl rfl rfl ?_)
  simp only [zKv]
  unfold rg
  (repeat' (first
  | (with_reducible first|refine zJx ?_|refine zGw ?_|refine zFz ?_|refine zEv ?_|refine zFy ?_|refine zJw ?_|refine zGv ?_|refine zCz ?_|refine zDw ?_|refine zCy ?_|refine zCv ?_|refine zEx ?_|refine zDz ?_|refine zCx ?_|refine zBx ?_|refine zEz ?_|refine zEy ?_|refine zAw ?_|refine zBy ?_)
  | refine zDy ?_|refine zEw rfl ?_|refine zIv ?_|refine zJy ?_
  | ((first|refine zGx rfl rfl rfl rfl rfl fun K_ hK_=>?_|refine zGy rfl rfl rfl rfl rfl fun K_ hK_=>?_);simp only [zAz,zDx,zGz,↓reduceIte,reduceCtorEq,Nat.reduceEqDiff,Bool.not_true,Bool.not_false];refine hK_ _ ?_;clear hK_ K_)
  | refine zDv (by decide) ?_
  | ((try first|refine zKy rfl rfl rfl ?_|refine zIw rfl rfl ?_|refine zKx rfl rfl rfl ?_|refine zJz rfl rfl ?_);(refine zIx fun Q_ hQ_=>?_;simp (disch:=first|omega|(simp only [List.length_cons,List.length_nil,List.length_append];omega)) only [bb,bp,zKv,↓reduceIte,reduceCtorEq,Nat.reduceEqDiff,Nat.reduceLT,Nat.reduceLeDiff,Nat.reduceAdd,Nat.reduceMul,Nat.reduceSub,Nat.reduceBEq,Int.reduceToNat,cond_true,cond_false,eq_self,beq_self_eq_true,hl,zFx wf,zHx wf,zBv wf,zFw wf,zAy wf,zAx,tEvZ5,zIy,zIz,zHv,zHw,zAv wf];first|(refine zCw (Q:=Q_) (fun hp_=>?_) (fun hp_=>?_) <;> first|(exfalso;omega)|(refine hQ_ _ _ ?_;clear hQ_ Q_))|(refine zBw (Q:=Q_) (fun hp_=>?_) (fun hp_=>?_) <;> first|(exfalso;omega)|(refine hQ_ _ _ ?_;clear hQ_ Q_))|(refine hQ_ _ _ ?_;clear hQ_ Q_)|(refine zOv (c1 _ _ (by first|omega|(simp only [List.length_append,List.length_cons,List.length_nil];omega))) ?_;refine hQ_ _ _ ?_;clear hQ_ Q_)))
  | (refine zHz fun K_ hK_=>?_;simp (disch:=omega) only [zFv,zAz,zHy,↓reduceIte,reduceCtorEq,Nat.reduceEqDiff,Nat.reduceLT];refine hK_ _ ?_;clear hK_ K_)))
  refine zKw _ _ rfl (retc0 (by decide) (by simp (disch:=first|omega|(simp only [List.length_cons,List.length_nil,List.length_append];omega)) only [bb,bp,zKv,↓reduceIte,reduceCtorEq,Nat.reduceEqDiff,Nat.reduceLT,Nat.reduceLeDiff,Nat.reduceAdd,Nat.reduceMul,Nat.reduceSub,Nat.reduceBEq,Int.reduceToNat,cond_true,cond_false,eq_self,beq_self_eq_true,zBv wf,tEvZ5,zIy,zIz,zHv,zHw,zAv wf];rfl)) ?_
  refine zLy rfl (by omega) ?_
  exact ⟨rfl,rfl⟩
theorem turned (N n k:Nat) (hN:N<2 ^ 128) (hk:k≤n) (hn:n≤128) (h:H) (wf:Wf h):(om Try.prog KK).call (.fn 64 [.agg (wd N),ii n,ii k]) h = .ok (.agg (wd (((N >>> k) ^^^ ((N <<< (n - k)) % 2 ^ 128)) % 2 ^ n))) h:=by
  have hs:(n:Int) - (k:Int)=((n - k:Nat):Int):=by omega
  have hD:N >>> k<2 ^ 128:=by rw [Nat.shiftRight_eq_div_pow];exact Nat.lt_of_le_of_lt (Nat.div_le_self _ _) hN
  have hU:(N <<< (n - k)) % 2 ^ 128<2 ^ 128:=Nat.mod_lt _ (by decide)
  have c1 : ∀ (l:List AO) (w:Nat),w≤h.clock+l.length→(om Try.prog KK).call (.fn 78 [.agg [uu (N % 2 ^ 64),uu (N >>> 64)],.int .i64 (k:Int)]) (X h l w) = .ok (.agg (wd (N >>> k))) (X h l w):=fun l w hw=>down N k hN (by omega) _ (wf.X hw)
  have c2 : ∀ (l:List AO) (w:Nat),w≤h.clock+l.length→(om Try.prog KK).call (.fn 79 [.agg [uu (N % 2 ^ 64),uu (N >>> 64)],.int .i64 ((n - k:Nat):Int)]) (X h l w) = .ok (.agg (wd ((N <<< (n - k)) % 2 ^ 128))) (X h l w):=fun l w hw=>up N (n - k) (by omega) _ (wf.X hw)
  generalize hDe:N >>> k=D at *
  generalize hUe:(N <<< (n - k)) % 2 ^ 128=U at *
  have c3 : ∀ (o1 o2:AO) w,w≤h.clock+3→(om Try.prog KK).call (.fn 65 [.sl (nx h 2) 0 2 (some 2) 2]) (X h [o1,o2,.cells (zBz [uu (D % 2 ^ 64),uu (D >>> 64),uu (U % 2 ^ 64),uu (U >>> 64)]) 57] w) = .ok (.agg (wd (D ^^^ U))) (X h [o1,o2,.cells (zBz [uu (D % 2 ^ 64),uu (D >>> 64),uu (U % 2 ^ 64),uu (U >>> 64)]) 57] w):=fun o1 o2 w hw=>by
    have:=sum [D,U] (by intro N hN;simp at hN;rcases hN with rfl|rfl <;> assumption) (by simp) (.sl (nx h 2) 0 2 (some 2) 2) _ (wf.X (l:=[o1,o2,.cells (zBz [uu (D % 2 ^ 64),uu (D >>> 64),uu (U % 2 ^ 64),uu (U >>> 64)]) 57]) hw) (Sl.new (k:=2) wf rfl rfl)
    rw [xall2] at this
    exact this
  have c4 : ∀ (l:List AO) (w:Nat),w≤h.clock+l.length→(om Try.prog KK).call (.fn 80 [.agg [uu ((D ^^^ U) % 2 ^ 64),uu ((D ^^^ U) >>> 64)],.int .i64 (n:Int)]) (X h l w) = .ok (.agg (wd ((D ^^^ U) % 2 ^ n))) (X h l w):=fun l w hw=>first _ n hn _ (wf.X hw)
  generalize (D ^^^ U) % 2 ^ n=R at *
  generalize D ^^^ U=E at *
  unfold wd at c1 c2 c3 c4 ⊢
  refine ySx (zMy (fn:=Try.f64) Try.func64 rfl rfl rfl rfl rfl ?_)
  simp only [zKv]
  (repeat' (first
  | (with_reducible first|refine zJx ?_|refine zGw ?_|refine zFz ?_|refine zEv ?_|refine zFy ?_|refine zJw ?_|refine zGv ?_|refine zCz ?_|refine zDw ?_|refine zCy ?_|refine zCv ?_|refine zEx ?_|refine zDz ?_|refine zCx ?_|refine zBx ?_|refine zEz ?_|refine zEy ?_|refine zAw ?_|refine zBy ?_)
  | refine zDy ?_|refine zEw rfl ?_|refine zIv ?_|refine zJy ?_
  | ((first|refine zGx rfl rfl rfl rfl rfl fun K_ hK_=>?_|refine zGy rfl rfl rfl rfl rfl fun K_ hK_=>?_);simp only [zAz,zDx,zGz,↓reduceIte,reduceCtorEq,Nat.reduceEqDiff,Bool.not_true,Bool.not_false];refine hK_ _ ?_;clear hK_ K_)
  | refine zDv (by decide) ?_
  | ((try first|refine zKy rfl rfl rfl ?_|refine zIw rfl rfl ?_|refine zKx rfl rfl rfl ?_|refine zJz rfl rfl ?_);(refine zIx fun Q_ hQ_=>?_;simp (disch:=first|omega|(simp only [List.length_cons,List.length_nil,List.length_append];omega)) only [bb,bp,zKv,↓reduceIte,reduceCtorEq,Nat.reduceEqDiff,Nat.reduceLT,Nat.reduceLeDiff,Nat.reduceAdd,Nat.reduceMul,Nat.reduceSub,Nat.reduceBEq,Int.reduceToNat,cond_true,cond_false,eq_self,beq_self_eq_true,zFx wf,zHx wf,zBv wf,zFw wf,zAy wf,zAx,tEvZ5,zIy,zIz,zHv,zHw,zAv wf];first|(refine zCw (Q:=Q_) (fun hp_=>?_) (fun hp_=>?_) <;> first|(exfalso;omega)|(refine hQ_ _ _ ?_;clear hQ_ Q_))|(refine zBw (Q:=Q_) (fun hp_=>?_) (fun hp_=>?_) <;> first|(exfalso;omega)|(refine hQ_ _ _ ?_;clear hQ_ Q_))|(refine hQ_ _ _ ?_;clear hQ_ Q_)))
  | (refine zHz fun K_ hK_=>?_;simp (disch:=omega) only [zFv,zAz,zHy,↓reduceIte,reduceCtorEq,Nat.reduceEqDiff,Nat.reduceLT];refine hK_ _ ?_;clear hK_ K_)))
  refine zPy [.no,.no,.no,.no,.no,.no,.no,.full,.full,.full,.no,.full,.full] (by kernel_rfl) ?_
  (repeat' (first
  | (with_reducible first|refine zJx ?_|refine zGw ?_|refine zFz ?_|refine zEv ?_|refine zFy ?_|refine zJw ?_|refine zGv ?_|refine zCz ?_|refine zDw ?_|refine zCy ?_|refine zCv ?_|refine zEx ?_|refine zDz ?_|refine zCx ?_|refine zBx ?_|refine zEz ?_|refine zEy ?_|refine zAw ?_|refine zBy ?_)
  | refine zDy ?_|refine zEw rfl ?_|refine zIv ?_|refine zJy ?_
  | ((first|refine zGx rfl rfl rfl rfl rfl fun K_ hK_=>?_|refine zGy rfl rfl rfl rfl rfl fun K_ hK_=>?_);simp only [zAz,zDx,zGz,↓reduceIte,reduceCtorEq,Nat.reduceEqDiff,Bool.not_true,Bool.not_false];refine hK_ _ ?_;clear hK_ K_)
  | refine zDv (by decide) ?_
  | ((try first|refine zKy rfl rfl rfl ?_|refine zIw rfl rfl ?_|refine zKx rfl rfl rfl ?_|refine zJz rfl rfl ?_);(refine zIx fun Q_ hQ_=>?_;simp (disch:=first|omega|(simp only [List.length_cons,List.length_nil,List.length_append];omega)) only [bb,bp,zKv,↓reduceIte,reduceCtorEq,Nat.reduceEqDiff,Nat.reduceLT,Nat.reduceLeDiff,Nat.reduceAdd,Nat.reduceMul,Nat.reduceSub,Nat.reduceBEq,Int.reduceToNat,cond_true,cond_false,eq_self,beq_self_eq_true,hs,c1,c2,c3,c4,zFx wf,zHx wf,zBv wf,zFw wf,zAy wf,zAx,tEvZ5,zIy,zIz,zHv,zHw,zAv wf];first|(refine zCw (Q:=Q_) (fun hp_=>?_) (fun hp_=>?_) <;> first|(exfalso;omega)|(refine hQ_ _ _ ?_;clear hQ_ Q_))|(refine zBw (Q:=Q_) (fun hp_=>?_) (fun hp_=>?_) <;> first|(exfalso;omega)|(refine hQ_ _ _ ?_;clear hQ_ Q_))|(refine hQ_ _ _ ?_;clear hQ_ Q_)))
  | (refine zHz fun K_ hK_=>?_;simp (disch:=omega) only [zFv,zAz,zHy,↓reduceIte,reduceCtorEq,Nat.reduceEqDiff,Nat.reduceLT];refine hK_ _ ?_;clear hK_ K_)))
  refine zKw _ _ rfl (retc0 (by decide) (by simp (disch:=first|omega|(simp only [List.length_cons,List.length_nil,List.length_append];omega)) only [bb,bp,zKv,↓reduceIte,reduceCtorEq,Nat.reduceEqDiff,Nat.reduceLT,Nat.reduceLeDiff,Nat.reduceAdd,Nat.reduceMul,Nat.reduceSub,Nat.reduceBEq,Int.reduceToNat,cond_true,cond_false,eq_self,beq_self_eq_true,zBv wf,tEvZ5,zIy,zIz,zHv,zHw,zAv wf];rfl)) ?_
  refine zLy rfl (by omega) ?_
  exact ⟨rfl,rfl⟩
end Go.Proofs.Ytmincoafjnnkpaa
end

section
namespace Go.Ev
def px :Nat→(Nat→Bool)→Bool
  | 0,_=>false
  | n+1,f=>px n f ^^ f n
theorem zYv {f g:Nat→Bool} : ∀ {n:Nat},(∀ i,i<n→f i=g i)→px n f=px n g
  | 0,_=>rfl
  | n+1,h=>by
    show (px n f ^^ f n)=(px n g ^^ g n)
    rw [zYv (n:=n) (fun i hi=>h i (by omega)),h n (by omega)]
theorem px_cnt (f:Nat→Bool) : ∀ n,cnt n f % 2=(px n f).toNat
  | 0=>rfl
  | n+1=>by
    have:=px_cnt f n
    show (cnt n f+(f n).toNat) % 2=(px n f ^^ f n).toNat
    cases hp:px n f <;> cases hf:f n <;> rw [hp] at this <;> simp at this ⊢ <;> omega
theorem xIv {f:Nat→Bool} : ∀ {n:Nat},(∀ i,i<n→f i=false)→px n f=false
  | 0,_=>rfl
  | n+1,h=>by
    show (px n f ^^ f n)=false
    rw [xIv (n:=n) (fun i hi=>h i (by omega)),h n (by omega)];rfl
theorem px_more {f:Nat→Bool} {m:Nat} : ∀ {n:Nat},m≤n→(∀ i,m≤i→i<n→f i=false)→px n f=px m f
  | 0,h,_=>by rw [show m=0 by omega]
  | n+1,h,hf=>by
    by_cases e:m=n+1
    · rw [e]
    · show (px n f ^^ f n)=_
      rw [px_more (n:=n) (by omega) (fun i h1 h2=>hf i h1 (by omega)),hf n (by omega) (by omega),Bool.xor_false]
def pred (T L:Nat) (s:Nat→Bool) (i:Nat):Bool:=px L fun j=>T.testBit j && s (i - 1 - j)
def aft (L X:Nat) (b:Bool):Nat:=(b.toNat ^^^ ((X <<< 1) % 2 ^ 128)) % 2 ^ L
def nextB (T X:Nat):Bool:=px 128 (T &&& X).testBit
theorem nextB_cnt (T X:Nat):cnt 128 (T &&& X).testBit % 2=(nextB T X).toNat:=px_cnt _ _
def st (L:Nat) (s:Nat→Bool):Nat→Nat
  | 0=>0
  | i+1=>aft L (st L s i) (s i)
theorem aft_bit {L X:Nat} (hL:L≤128) (b:Bool) (j:Nat):(aft L X b).testBit j=(decide (j<L) && (if j=0 then b else X.testBit (j - 1))):=by
  unfold aft
  rw [Nat.testBit_mod_two_pow,Nat.testBit_xor,Nat.testBit_mod_two_pow,Nat.testBit_shiftLeft]
  by_cases h:j<L
  · by_cases h0:j=0
    · subst h0;cases b <;> simp [h]
    · have hb:b.toNat.testBit j=false:=by
        cases b
        · simp
        · show (1:Nat).testBit j=false
          rw [show (1:Nat)=2 ^ 0 from rfl,Nat.testBit_two_pow];simp;omega
      simp [h,h0,hb,show j<128 by omega,show 1≤j by omega]
  · simp [h]
theorem xGz {L:Nat} (hL:L≤128) (s:Nat→Bool) : ∀ (i j:Nat),(st L s i).testBit j=(decide (j<L) && decide (j<i) && s (i - 1 - j))
  | 0,j=>by simp [st]
  | i+1,j=>by
    show (aft L (st L s i) (s i)).testBit j=_
    rw [aft_bit hL]
    by_cases h:j<L
    · cases j with
      | zero=>simp
      | succ j=>
        rw [if_neg (by omega),Nat.add_sub_cancel,xGz hL s i j,show i+1 - 1 - (j+1)=i - 1 - j by omega]
        have:decide (j+1<i+1)=decide (j<i):=by simp
        rw [this]
        simp [h,show j<L by omega]
    · simp [h]
theorem aft_lt {L X:Nat} (b:Bool):aft L X b<2 ^ L:=Nat.mod_lt _ (Nat.two_pow_pos L)
theorem st_lt (L:Nat) (s:Nat→Bool) : ∀ i,st L s i<2 ^ L
  | 0=>Nat.two_pow_pos L
  | i+1=>aft_lt _
theorem next_st {T L:Nat} (hL:L≤128) (s:Nat→Bool) {i:Nat} (hi:L≤i):nextB T (st L s i)=pred T L s i:=by
  unfold nextB pred
  rw [px_more hL]
  · refine zYv fun j hj=>?_
    rw [Nat.testBit_and,xGz hL]
    simp [hj,show j<i by omega]
  · intro j h1 h2
    rw [Nat.testBit_and,xGz hL]
    simp [show ¬ j<L by omega]
theorem xJz {T L:Nat} {s t:Nat→Bool} {i:Nat} (hi:L≤i) (h : ∀ j,j<i→s j=t j):pred T L s i=pred T L t i:=by
  unfold pred
  refine zYv fun j hj=>?_
  rw [h (i - 1 - j) (by omega)]
structure IsRun (T L:Nat) (start m:Nat→Bool):Prop where
  first : ∀ i,i<L→m i=start i
  then_ : ∀ i,L≤i→m i=pred T L m i
def gen (T L:Nat) (start:Nat→Bool):Nat→List Bool
  | 0=>[]
  | n+1=>gen T L start n++[if n<L then start n else pred T L (fun i=>(gen T L start n).getD i false) n]
theorem xJx (T L:Nat) (start:Nat→Bool) : ∀ n,(gen T L start n).length=n
  | 0=>rfl
  | n+1=>by rw [gen,List.length_append,xJx T L start n];rfl
def runS (T L:Nat) (start:Nat→Bool) (i:Nat):Bool:=(gen T L start (i+1)).getD i false
theorem gen_get (T L:Nat) (start:Nat→Bool) {i:Nat} : ∀ {n:Nat},i<n→(gen T L start n).getD i false=runS T L start i
  | 0,h=>absurd h (Nat.not_lt_zero _)
  | n+1,h=>by
    by_cases e:i=n
    · subst e;rfl
    · rw [gen,List.getD_eq_getElem?_getD,List.getElem?_append_left (by rw [xJx];omega),← List.getD_eq_getElem?_getD]
      exact gen_get T L start (by omega)
theorem runS_is (T L:Nat) (start:Nat→Bool):IsRun T L start (runS T L start):=by
  have e : ∀ i,runS T L start i=if i<L then start i else pred T L (fun j=>(gen T L start i).getD j false) i:=fun i=>by
    unfold runS
    rw [gen,List.getD_eq_getElem?_getD,List.getElem?_append_right (by rw [xJx];omega),xJx,Nat.sub_self];rfl
  refine ⟨fun i hi=>by rw [e,if_pos hi],fun i hi=>?_⟩
  rw [e,if_neg (by omega)]
  exact xJz hi fun j hj=>gen_get T L start hj
theorem IsRun.unique {T L:Nat} {start m m':Nat→Bool} (a:IsRun T L start m) (b:IsRun T L start m') : ∀ n i,i<n→m i=m' i
  | 0,_,h=>absurd h (Nat.not_lt_zero _)
  | n+1,i,h=>by
    by_cases hl:i<L
    · rw [a.first i hl,b.first i hl]
    · rw [a.then_ i (by omega),b.then_ i (by omega)]
      exact xJz (by omega) fun j hj=>a.unique b n j (by omega)
def Makes (T L:Nat) (s:Nat→Bool) (n:Nat):Prop:=∀ i,L≤i→i<n→s i=pred T L s i
theorem IsRun.agree {T L n:Nat} {s m:Nat→Bool} (a:IsRun T L s m) (h:Makes T L s n) : ∀ k i,i<k→i<n→m i=s i
  | 0,_,h,_=>absurd h (Nat.not_lt_zero _)
  | k+1,i,hk,hi=>by
    by_cases hl:i<L
    · exact a.first i hl
    · rw [a.then_ i (by omega),h i (by omega) hi]
      exact xJz (by omega) fun j hj=>a.agree h k j (by omega) (by omega)
end Go.Ev
end

section
namespace Go.Proofs.Ytmincoafjnnkpaa
open Go.Ev
set_option maxRecDepth 100000
set_option linter.unusedSimpArgs false
set_option linter.unusedVariables false
set_option maxHeartbeats 2000000
theorem tEvZ6 :type_of% (And.intro (And.intro (And.intro (And.intro (And.intro (And.intro (And.intro (@yQx) (@yQy)) (And.intro (@yQz) (@yPv))) (And.intro (And.intro (@yPw) (@yPx)) (And.intro (@ia_2) (And.intro (@ia_3) (@ia_4))))) (And.intro (And.intro (And.intro (@ia_5) (@yPy)) (And.intro (@yPz) (@yOv))) (And.intro (And.intro (@yOw) (@yOx)) (And.intro (@yOy) (And.intro (@zRv) (@yOz)))))) (And.intro (And.intro (And.intro (And.intro (@yNv) (@yNw)) (And.intro (@yNx) (@yNy))) (And.intro (And.intro (@yNz) (@yMv)) (And.intro (@yMw) (And.intro (@yMx) (@sz_2))))) (And.intro (And.intro (And.intro (@sz_3) (@sz_4)) (And.intro (@sz_5) (And.intro (@zQv) (@zYw)))) (And.intro (And.intro (@zYx) (@zYy)) (And.intro (@zYz) (And.intro (@zXv) (@zRx))))))) (And.intro (And.intro (And.intro (And.intro (And.intro (@zXw) (@zXx)) (And.intro (@zXy) (@zQx))) (And.intro (And.intro (@zXz) (@zWv)) (And.intro (@zWw) (And.intro (@zWx) (@zWy))))) (And.intro (And.intro (And.intro (@ze_2) (@ze_3)) (And.intro (@ze_4) (And.intro (@ze_5) (@zWz)))) (And.intro (And.intro (@zVv) (@zVw)) (And.intro (@zVx) (And.intro (@zVy) (@zVz)))))) (And.intro (And.intro (And.intro (And.intro (@zUv) (@zUw)) (And.intro (@zUx) (@zUy))) (And.intro (And.intro (@zUz) (@zTv)) (And.intro (@zTw) (And.intro (@zTx) (@zTy))))) (And.intro (And.intro (And.intro (@zOy) (@zOz)) (And.intro (@zNv) (And.intro (@zNw) (@zNx)))) (And.intro (And.intro (@zNy) (@zNz)) (And.intro (@zMv) (And.intro (@zMw) (@yMy)))))))) (And.intro (And.intro (And.intro (And.intro (And.intro (And.intro (@yMz) (@yLv)) (And.intro (@yLw) (@yLx))) (And.intro (And.intro (@yLy) (@yLz)) (And.intro (@yKv) (And.intro (@yKw) (@yKx))))) (And.intro (And.intro (And.intro (@yKy) (@yKz)) (And.intro (@yJv) (@yJw))) (And.intro (And.intro (@yJx) (@yJy)) (And.intro (@yJz) (And.intro (@yIv) (@yIw)))))) (And.intro (And.intro (And.intro (And.intro (@yIx) (@yIy)) (And.intro (@yIz) (@yHv))) (And.intro (And.intro (@yHw) (@yHx)) (And.intro (@yHy) (And.intro (@yHz) (@yGv))))) (And.intro (And.intro (And.intro (@yGw) (@yGx)) (And.intro (@yGy) (And.intro (@yGz) (@yFv)))) (And.intro (And.intro (@yFw) (@yFx)) (And.intro (@yFy) (And.intro (@yFz) (@yEv))))))) (And.intro (And.intro (And.intro (And.intro (And.intro (@yEw) (@yEx)) (And.intro (@yEy) (@yEz))) (And.intro (And.intro (@yDv) (@yDw)) (And.intro (@yDx) (And.intro (@yDy) (@yDz))))) (And.intro (And.intro (And.intro (@yCv) (@yCw)) (And.intro (@yCx) (And.intro (@yCy) (@yCz)))) (And.intro (And.intro (@zSz) (@yBv)) (And.intro (@yBw) (And.intro (@yBx) (@yBy)))))) (And.intro (And.intro (And.intro (And.intro (@yBz) (@yAv)) (And.intro (@yAw) (@yAx))) (And.intro (And.intro (@yAy) (@yAz)) (And.intro (@zZv) (And.intro (@zZw) (@zZx))))) (And.intro (And.intro (And.intro (@zZy) (@zZz)) (And.intro (@zQy) (And.intro (@zSv) (@zSw)))) (And.intro (And.intro (@zQw) (@zSx)) (And.intro (@zRy) (And.intro (@zSy) (@zRw))))))))):=And.intro (And.intro (And.intro (And.intro (And.intro (And.intro (And.intro (@yQx) (@yQy)) (And.intro (@yQz) (@yPv))) (And.intro (And.intro (@yPw) (@yPx)) (And.intro (@ia_2) (And.intro (@ia_3) (@ia_4))))) (And.intro (And.intro (And.intro (@ia_5) (@yPy)) (And.intro (@yPz) (@yOv))) (And.intro (And.intro (@yOw) (@yOx)) (And.intro (@yOy) (And.intro (@zRv) (@yOz)))))) (And.intro (And.intro (And.intro (And.intro (@yNv) (@yNw)) (And.intro (@yNx) (@yNy))) (And.intro (And.intro (@yNz) (@yMv)) (And.intro (@yMw) (And.intro (@yMx) (@sz_2))))) (And.intro (And.intro (And.intro (@sz_3) (@sz_4)) (And.intro (@sz_5) (And.intro (@zQv) (@zYw)))) (And.intro (And.intro (@zYx) (@zYy)) (And.intro (@zYz) (And.intro (@zXv) (@zRx))))))) (And.intro (And.intro (And.intro (And.intro (And.intro (@zXw) (@zXx)) (And.intro (@zXy) (@zQx))) (And.intro (And.intro (@zXz) (@zWv)) (And.intro (@zWw) (And.intro (@zWx) (@zWy))))) (And.intro (And.intro (And.intro (@ze_2) (@ze_3)) (And.intro (@ze_4) (And.intro (@ze_5) (@zWz)))) (And.intro (And.intro (@zVv) (@zVw)) (And.intro (@zVx) (And.intro (@zVy) (@zVz)))))) (And.intro (And.intro (And.intro (And.intro (@zUv) (@zUw)) (And.intro (@zUx) (@zUy))) (And.intro (And.intro (@zUz) (@zTv)) (And.intro (@zTw) (And.intro (@zTx) (@zTy))))) (And.intro (And.intro (And.intro (@zOy) (@zOz)) (And.intro (@zNv) (And.intro (@zNw) (@zNx)))) (And.intro (And.intro (@zNy) (@zNz)) (And.intro (@zMv) (And.intro (@zMw) (@yMy)))))))) (And.intro (And.intro (And.intro (And.intro (And.intro (And.intro (@yMz) (@yLv)) (And.intro (@yLw) (@yLx))) (And.intro (And.intro (@yLy) (@yLz)) (And.intro (@yKv) (And.intro (@yKw) (@yKx))))) (And.intro (And.intro (And.intro (@yKy) (@yKz)) (And.intro (@yJv) (@yJw))) (And.intro (And.intro (@yJx) (@yJy)) (And.intro (@yJz) (And.intro (@yIv) (@yIw)))))) (And.intro (And.intro (And.intro (And.intro (@yIx) (@yIy)) (And.intro (@yIz) (@yHv))) (And.intro (And.intro (@yHw) (@yHx)) (And.intro (@yHy) (And.intro (@yHz) (@yGv))))) (And.intro (And.intro (And.intro (@yGw) (@yGx)) (And.intro (@yGy) (And.intro (@yGz) (@yFv)))) (And.intro (And.intro (@yFw) (@yFx)) (And.intro (@yFy) (And.intro (@yFz) (@yEv))))))) (And.intro (And.intro (And.intro (And.intro (And.intro (@yEw) (@yEx)) (And.intro (@yEy) (@yEz))) (And.intro (And.intro (@yDv) (@yDw)) (And.intro (@yDx) (And.intro (@yDy) (@yDz))))) (And.intro (And.intro (And.intro (@yCv) (@yCw)) (And.intro (@yCx) (And.intro (@yCy) (@yCz)))) (And.intro (And.intro (@zSz) (@yBv)) (And.intro (@yBw) (And.intro (@yBx) (@yBy)))))) (And.intro (And.intro (And.intro (And.intro (@yBz) (@yAv)) (And.intro (@yAw) (@yAx))) (And.intro (And.intro (@yAy) (@yAz)) (And.intro (@zZv) (And.intro (@zZw) (@zZx))))) (And.intro (And.intro (And.intro (@zZy) (@zZz)) (And.intro (@zQy) (And.intro (@zSv) (@zSw)))) (And.intro (And.intro (@zQw) (@zSx)) (And.intro (@zRy) (And.intro (@zSy) (@zRw))))))))
theorem next (T L Y:Nat) (hT:T<2 ^ 128) (h:H) (wf:Wf h):(om Try.prog KK).call (.fn 69 [.agg (rg T L),.agg (wd Y)]) h = .ok (bi (nextB T Y)) h:=by
  have hl:T &&& Y<2 ^ 128:=Nat.lt_of_le_of_lt Nat.and_le_left hT
  have hc:=nextB_cnt T Y
  have hm:((cnt 128 (T &&& Y).testBit:Nat):Int).tmod 2=(((nextB T Y).toNat:Nat):Int):=by rw [← hc];rfl
  have c1 : ∀ (l:List AO) (w:Nat),w≤h.clock+l.length→(om Try.prog KK).call (.fn 82 [.agg [uu (T % 2 ^ 64),uu (T >>> 64)],.agg [uu (Y % 2 ^ 64),uu (Y >>> 64)]]) (X h l w) = .ok (.agg [uu ((T &&& Y) % 2 ^ 64),uu ((T &&& Y) >>> 64)]) (X h l w):=fun l w hw=>times T Y hT _ (wf.X hw)
  have c2 : ∀ (l:List AO) (w:Nat),w≤h.clock+l.length→(om Try.prog KK).call (.fn 66 [.agg [uu ((T &&& Y) % 2 ^ 64),uu ((T &&& Y) >>> 64)]]) (X h l w) = .ok (ii (cnt 128 (T &&& Y).testBit:Nat)) (X h l w):=fun l w hw=>ones _ hl _ (wf.X hw)
  have n2:(2:Int)≠0:=by decide
  generalize cnt 128 (T &&& Y).testBit=C at *
  generalize T &&& Y=TX at *
  unfold rg wd
  refine ySx (zMy (fn:=Try.f69) Try.func69 rfl rfl rfl rfl rfl ?_)
  simp only [zKv]
  (repeat' (first
  | (with_reducible first|refine zJx ?_|refine zGw ?_|refine zFz ?_|refine zEv ?_|refine zFy ?_|refine zJw ?_|refine zGv ?_|refine zCz ?_|refine zDw ?_|refine zCy ?_|refine zCv ?_|refine zEx ?_|refine zDz ?_|refine zCx ?_|refine zBx ?_|refine zEz ?_|refine zEy ?_|refine zAw ?_|refine zBy ?_)
  | refine zDy ?_|refine zEw rfl ?_|refine zIv ?_|refine zJy ?_
  | ((first|refine zGx rfl rfl rfl rfl rfl fun K_ hK_=>?_|refine zGy rfl rfl rfl rfl rfl fun K_ hK_=>?_);simp only [zAz,zDx,zGz,↓reduceIte,reduceCtorEq,Nat.reduceEqDiff,Bool.not_true,Bool.not_false];refine hK_ _ ?_;clear hK_ K_)
  | refine zDv (by decide) ?_
  | ((try first|refine zKy rfl rfl rfl ?_|refine zIw rfl rfl ?_|refine zKx rfl rfl rfl ?_|refine zJz rfl rfl ?_);(refine zIx fun Q_ hQ_=>?_;simp (disch:=first|omega|(simp only [List.length_cons,List.length_nil,List.length_append];omega)) only [bb,bp,zKv,↓reduceIte,reduceCtorEq,Nat.reduceEqDiff,Nat.reduceLT,Nat.reduceLeDiff,Nat.reduceAdd,Nat.reduceMul,Nat.reduceSub,Nat.reduceBEq,Int.reduceToNat,cond_true,cond_false,eq_self,beq_self_eq_true,wAy n2,hm,zFx wf,zHx wf,zBv wf,zFw wf,zAy wf,zAx,tEvZ6,zIy,zIz,zHv,zHw,zAv wf];first|(refine zCw (Q:=Q_) (fun hp_=>?_) (fun hp_=>?_) <;> first|(exfalso;omega)|(refine hQ_ _ _ ?_;clear hQ_ Q_))|(refine zBw (Q:=Q_) (fun hp_=>?_) (fun hp_=>?_) <;> first|(exfalso;omega)|(refine hQ_ _ _ ?_;clear hQ_ Q_))|(refine hQ_ _ _ ?_;clear hQ_ Q_)|(refine zOv (c1 _ _ (by first|omega|(simp only [List.length_append,List.length_cons,List.length_nil];omega))) ?_;refine hQ_ _ _ ?_;clear hQ_ Q_)|(refine zOv (c2 _ _ (by first|omega|(simp only [List.length_append,List.length_cons,List.length_nil];omega))) ?_;refine hQ_ _ _ ?_;clear hQ_ Q_)))
  | (refine zHz fun K_ hK_=>?_;simp (disch:=omega) only [zFv,zAz,zHy,↓reduceIte,reduceCtorEq,Nat.reduceEqDiff,Nat.reduceLT];refine hK_ _ ?_;clear hK_ K_)))
  (refine zKw _ _ rfl (ret1 (by decide)) ?_;simp only [zAz,↓reduceIte,reduceCtorEq,Nat.reduceEqDiff];refine zLy rfl (by omega) ?_)
  exact ⟨rfl,rfl⟩

theorem after (T L Y:Nat) (b:Bool) (hL:L≤128) (h:H) (wf:Wf h):(om Try.prog KK).call (.fn 70 [.agg (rg T L),.agg (wd Y),bi b]) h = .ok (.agg (wd (aft L Y b))) h:=by
  unfold bi
  have hb:=bi_lt b
  have hcv:=c_ui b.toNat (by omega)
  have hw1:wd b.toNat=[uu b.toNat,.int .u64 0]:=by cases b <;> rfl
  have hB:b.toNat<2 ^ 128:=by omega
  have hU:(Y <<< 1) % 2 ^ 128<2 ^ 128:=Nat.mod_lt _ (by decide)
  have c1 : ∀ (l:List AO) (w:Nat),w≤h.clock+l.length→(om Try.prog KK).call (.fn 79 [.agg [uu (Y % 2 ^ 64),uu (Y >>> 64)],.int .i64 1]) (X h l w) = .ok (.agg (wd ((Y <<< 1) % 2 ^ 128))) (X h l w):=fun l w hw=>up Y 1 (by omega) _ (wf.X hw)
  have haft:aft L Y b=(b.toNat ^^^ ((Y <<< 1) % 2 ^ 128)) % 2 ^ L:=rfl
  generalize aft L Y b=R at *
  generalize (Y <<< 1) % 2 ^ 128=U at *
  have c3 : ∀ (o1 o2 o3 o4:AO) w,w≤h.clock+5→(om Try.prog KK).call (.fn 65 [.sl (nx h 4) 0 2 (some 2) 2]) (X h [o1,o2,o3,o4,.cells (zBz [uu b.toNat,.int .u64 0,uu (U % 2 ^ 64),uu (U >>> 64)]) 57] w) = .ok (.agg (wd (b.toNat ^^^ U))) (X h [o1,o2,o3,o4,.cells (zBz [uu b.toNat,.int .u64 0,uu (U % 2 ^ 64),uu (U >>> 64)]) 57] w):=fun o1 o2 o3 o4 w hw=>by
    have:=sum [b.toNat,U] (by intro N hN;simp at hN;rcases hN with rfl|rfl <;> assumption) (by simp) (.sl (nx h 4) 0 2 (some 2) 2) _ (wf.X (l:=[o1,o2,o3,o4,.cells (zBz [uu b.toNat,.int .u64 0,uu (U % 2 ^ 64),uu (U >>> 64)]) 57]) hw) (Sl.new (k:=4) wf rfl (by show some _=some _;rw [show [b.toNat,U].flatMap wd=wd b.toNat++(wd U++[]) from rfl,hw1];rfl))
    rw [xall2] at this
    exact this
  have c4 : ∀ (l:List AO) (w:Nat),w≤h.clock+l.length→(om Try.prog KK).call (.fn 80 [.agg [uu ((b.toNat ^^^ U) % 2 ^ 64),uu ((b.toNat ^^^ U) >>> 64)],.int .i64 (L:Int)]) (X h l w) = .ok (.agg (wd R)) (X h l w):=fun l w hw=>by rw [haft];exact first _ L hL _ (wf.X hw)
  generalize b.toNat ^^^ U=E at *
  generalize b.toNat=bn at *
  unfold wd at c1 c3 c4
  unfold wd rg
  refine ySx (zMy (fn:=Try.f70) Try.func70 rfl rfl rfl rfl rfl ?_)
  simp only [zKv]
  (repeat' (first
  | (with_reducible first|refine zJx ?_|refine zGw ?_|refine zFz ?_|refine zEv ?_|refine zFy ?_|refine zJw ?_|refine zGv ?_|refine zCz ?_|refine zDw ?_|refine zCy ?_|refine zCv ?_|refine zEx ?_|refine zDz ?_|refine zCx ?_|refine zBx ?_|refine zEz ?_|refine zEy ?_|refine zAw ?_|refine zBy ?_)
  | refine zDy ?_|refine zEw rfl ?_|refine zIv ?_|refine zJy ?_
  | ((first|refine zGx rfl rfl rfl rfl rfl fun K_ hK_=>?_|refine zGy rfl rfl rfl rfl rfl fun K_ hK_=>?_);simp only [zAz,zDx,zGz,↓reduceIte,reduceCtorEq,Nat.reduceEqDiff,Bool.not_true,Bool.not_false];refine hK_ _ ?_;clear hK_ K_)
  | refine zDv (by decide) ?_
  | ((try first|refine zKy rfl rfl rfl ?_|refine zIw rfl rfl ?_|refine zKx rfl rfl rfl ?_|refine zJz rfl rfl ?_);(refine zIx fun Q_ hQ_=>?_;simp (disch:=first|omega|(simp only [List.length_cons,List.length_nil,List.length_append];omega)) only [bb,bp,zKv,↓reduceIte,reduceCtorEq,Nat.reduceEqDiff,Nat.reduceLT,Nat.reduceLeDiff,Nat.reduceAdd,Nat.reduceMul,Nat.reduceSub,Nat.reduceBEq,Int.reduceToNat,cond_true,cond_false,eq_self,beq_self_eq_true,hcv,zFx wf,zHx wf,zBv wf,zFw wf,zAy wf,zAx,tEvZ6,zIy,zIz,zHv,zHw,zAv wf];first|(refine zCw (Q:=Q_) (fun hp_=>?_) (fun hp_=>?_) <;> first|(exfalso;omega)|(refine hQ_ _ _ ?_;clear hQ_ Q_))|(refine zBw (Q:=Q_) (fun hp_=>?_) (fun hp_=>?_) <;> first|(exfalso;omega)|(refine hQ_ _ _ ?_;clear hQ_ Q_))|(refine hQ_ _ _ ?_;clear hQ_ Q_)))
  | (refine zHz fun K_ hK_=>?_;simp (disch:=omega) only [zFv,zAz,zHy,↓reduceIte,reduceCtorEq,Nat.reduceEqDiff,Nat.reduceLT];refine hK_ _ ?_;clear hK_ K_)))
  refine zPy [.no,.no,.no,.no,.no,.no,.no,.no,.full,.full,.full] (by kernel_rfl) ?_
  (repeat' (first
  | (with_reducible first|refine zJx ?_|refine zGw ?_|refine zFz ?_|refine zEv ?_|refine zFy ?_|refine zJw ?_|refine zGv ?_|refine zCz ?_|refine zDw ?_|refine zCy ?_|refine zCv ?_|refine zEx ?_|refine zDz ?_|refine zCx ?_|refine zBx ?_|refine zEz ?_|refine zEy ?_|refine zAw ?_|refine zBy ?_)
  | refine zDy ?_|refine zEw rfl ?_|refine zIv ?_|refine zJy ?_
  | ((first|refine zGx rfl rfl rfl rfl rfl fun K_ hK_=>?_|refine zGy rfl rfl rfl rfl rfl fun K_ hK_=>?_);simp only [zAz,zDx,zGz,↓reduceIte,reduceCtorEq,Nat.reduceEqDiff,Bool.not_true,Bool.not_false];refine hK_ _ ?_;clear hK_ K_)
  | refine zDv (by decide) ?_
  | ((try first|refine zKy rfl rfl rfl ?_|refine zIw rfl rfl ?_|refine zKx rfl rfl rfl ?_|refine zJz rfl rfl ?_);(refine zIx fun Q_ hQ_=>?_;simp (disch:=first|omega|(simp only [List.length_cons,List.length_nil,List.length_append];omega)) only [bb,bp,zKv,↓reduceIte,reduceCtorEq,Nat.reduceEqDiff,Nat.reduceLT,Nat.reduceLeDiff,Nat.reduceAdd,Nat.reduceMul,Nat.reduceSub,Nat.reduceBEq,Int.reduceToNat,cond_true,cond_false,eq_self,beq_self_eq_true,c1,c3,c4,zFx wf,zHx wf,zBv wf,zFw wf,zAy wf,zAx,tEvZ6,zIy,zIz,zHv,zHw,zAv wf];first|(refine zCw (Q:=Q_) (fun hp_=>?_) (fun hp_=>?_) <;> first|(exfalso;omega)|(refine hQ_ _ _ ?_;clear hQ_ Q_))|(refine zBw (Q:=Q_) (fun hp_=>?_) (fun hp_=>?_) <;> first|(exfalso;omega)|(refine hQ_ _ _ ?_;clear hQ_ Q_))|(refine hQ_ _ _ ?_;clear hQ_ Q_)))
  | (refine zHz fun K_ hK_=>?_;simp (disch:=omega) only [zFv,zAz,zHy,↓reduceIte,reduceCtorEq,Nat.reduceEqDiff,Nat.reduceLT];refine hK_ _ ?_;clear hK_ K_)))
  refine zKw _ _ rfl (retc0 (by decide) (by simp (disch:=first|omega|(simp only [List.length_cons,List.length_nil,List.length_append];omega)) only [bb,bp,zKv,↓reduceIte,reduceCtorEq,Nat.reduceEqDiff,Nat.reduceLT,Nat.reduceLeDiff,Nat.reduceAdd,Nat.reduceMul,Nat.reduceSub,Nat.reduceBEq,Int.reduceToNat,cond_true,cond_false,eq_self,beq_self_eq_true,zBv wf,tEvZ6,zIy,zIz,zHv,zHw,zAv wf];rfl)) ?_
  refine zLy rfl (by omega) ?_
  exact ⟨rfl,rfl⟩

theorem begun (T L:Nat) (hL:L≤128) (bs:List Bool) (hb:bs.length≤1000) (m:Nat→Bool) (hm : ∀ i (hi:i<bs.length),m i=bs[i]) (a:AV) (h:H) (wf:Wf h) (hs:Sl h a 1 bs.length (bs.map bi)) :
    (om Try.prog KK).call (.fn 68 [.agg (rg T L),a]) h = .ok (.agg (wd (st L m bs.length))) h:=by
  have hl : ∀ h',lenE Try.prog 22 a h'=some (ii (bs.length:Int)):=fun h'=>hs.len yTx
  refine ySx (zMy (fn:=Try.f68) Try.func68 rfl rfl rfl rfl rfl ?_)
  simp only [zKv]
  unfold rg
  (repeat' (first
  | (with_reducible first|refine zJx ?_|refine zGw ?_|refine zFz ?_|refine zEv ?_|refine zFy ?_|refine zJw ?_|refine zGv ?_|refine zCz ?_|refine zDw ?_|refine zCy ?_|refine zCv ?_|refine zEx ?_|refine zDz ?_|refine zCx ?_|refine zBx ?_|refine zEz ?_|refine zEy ?_|refine zAw ?_|refine zBy ?_)
  | refine zDy ?_|refine zEw rfl ?_|refine zIv ?_|refine zJy ?_
  | ((first|refine zGx rfl rfl rfl rfl rfl fun K_ hK_=>?_|refine zGy rfl rfl rfl rfl rfl fun K_ hK_=>?_);simp only [zAz,zDx,zGz,↓reduceIte,reduceCtorEq,Nat.reduceEqDiff,Bool.not_true,Bool.not_false];refine hK_ _ ?_;clear hK_ K_)
  | refine zDv (by decide) ?_
  | ((try first|refine zKy rfl rfl rfl ?_|refine zIw rfl rfl ?_|refine zKx rfl rfl rfl ?_|refine zJz rfl rfl ?_);(refine zIx fun Q_ hQ_=>?_;simp (disch:=first|omega|(simp only [List.length_cons,List.length_nil,List.length_append];omega)) only [bb,bp,zKv,↓reduceIte,reduceCtorEq,Nat.reduceEqDiff,Nat.reduceLT,Nat.reduceLeDiff,Nat.reduceAdd,Nat.reduceMul,Nat.reduceSub,Nat.reduceBEq,Int.reduceToNat,cond_true,cond_false,eq_self,beq_self_eq_true,hl,zFx wf,zHx wf,zBv wf,zFw wf,zAy wf,zAx,tEvZ6,zIy,zIz,zHv,zHw,zAv wf];first|(refine zCw (Q:=Q_) (fun hp_=>?_) (fun hp_=>?_) <;> first|(exfalso;omega)|(refine hQ_ _ _ ?_;clear hQ_ Q_))|(refine zBw (Q:=Q_) (fun hp_=>?_) (fun hp_=>?_) <;> first|(exfalso;omega)|(refine hQ_ _ _ ?_;clear hQ_ Q_))|(refine hQ_ _ _ ?_;clear hQ_ Q_)))
  | (refine zHz fun K_ hK_=>?_;simp (disch:=omega) only [zFv,zAz,zHy,↓reduceIte,reduceCtorEq,Nat.reduceEqDiff,Nat.reduceLT];refine hK_ _ ?_;clear hK_ K_)))
  refine zOw (α:=Nat) (fun (i:Nat) f d h'=>i≤bs.length∧f 2 = .ptr (nx h 0) 0∧f 4 = .ptr (nx h 1) 0∧f 5 = .ptr (nx h 2) 0∧f 8=a∧f 9=ii (bs.length:Int)∧f 10=ii (i:Int)∧d=[] ∧
    ∃ w,h.clock≤w∧w≤h.clock+3∧h'=X h [.cells (zBz [uu (T % 2 ^ 64),uu (T >>> 64),ii (L:Int)]) 59,.cells (zBz [.int .u64 0,.int .u64 0]) 78,.cells (zBz (wd (st L m i))) 78] w) (fun i=>bs.length - i) ?_ (bs.length+1) 0 (by omega) ?_
  · rintro i f d h' ⟨hi,g2,g4,g5,g8,g9,g10,rfl,w,hw,hw2,rfl⟩
    by_cases hlt:i<bs.length
    · obtain ⟨id,off,hix,hld⟩:=hs.at1 wf hlt zQy
      have hld : ∀ l w,load1 id off (X h l w)=some (bi (m i)):=fun l w=>by
        rw [hld,List.getElem?_map,List.getElem?_eq_getElem hlt,hm i hlt];rfl
      have e1:st L m (i+1)=aft L (st L m i) (m i):=rfl
      generalize st L m i=S at *
      have c1 : ∀ (l:List AO) (w:Nat),w≤h.clock+l.length→(om Try.prog KK).call (.fn 70 [.agg [uu (T % 2 ^ 64),uu (T >>> 64),ii (L:Int)],.agg [uu (S % 2 ^ 64),uu (S >>> 64)],bi (m i)]) (X h l w) = .ok (.agg [uu (aft L S (m i) % 2 ^ 64),uu (aft L S (m i) >>> 64)]) (X h l w):=fun l w hw=>after T L S (m i) hL _ (wf.X hw)
      rw [← e1] at c1
      generalize hS2:st L m (i+1)=S2 at *
      generalize hbm:bi (m i)=bm at *
      unfold wd
      (repeat' (first
  | (with_reducible first|refine zJx ?_|refine zGw ?_|refine zFz ?_|refine zEv ?_|refine zFy ?_|refine zJw ?_|refine zGv ?_|refine zCz ?_|refine zDw ?_|refine zCy ?_|refine zCv ?_|refine zEx ?_|refine zDz ?_|refine zCx ?_|refine zBx ?_|refine zEz ?_|refine zEy ?_|refine zAw ?_|refine zBy ?_)
  | refine zDy ?_|refine zEw rfl ?_|refine zIv ?_|refine zJy ?_
  | ((first|refine zGx rfl rfl rfl rfl rfl fun K_ hK_=>?_|refine zGy rfl rfl rfl rfl rfl fun K_ hK_=>?_);simp only [zAz,zDx,zGz,↓reduceIte,reduceCtorEq,Nat.reduceEqDiff,Bool.not_true,Bool.not_false];refine hK_ _ ?_;clear hK_ K_)
  | refine zDv (by decide) ?_
  | ((try first|refine zKy rfl rfl rfl ?_|refine zIw rfl rfl ?_|refine zKx rfl rfl rfl ?_|refine zJz rfl rfl ?_);(refine zIx fun Q_ hQ_=>?_;simp (disch:=first|omega|(simp only [List.length_cons,List.length_nil,List.length_append];omega)) only [bb,bp,zKv,↓reduceIte,reduceCtorEq,Nat.reduceEqDiff,Nat.reduceLT,Nat.reduceLeDiff,Nat.reduceAdd,Nat.reduceMul,Nat.reduceSub,Nat.reduceBEq,Int.reduceToNat,cond_true,cond_false,eq_self,beq_self_eq_true,hl,g2,g4,g5,g8,g9,g10,hix,hld,zFx wf,zHx wf,zBv wf,zFw wf,zAy wf,zAx,tEvZ6,zIy,zIz,zHv,zHw,zAv wf];first|(refine zCw (Q:=Q_) (fun hp_=>?_) (fun hp_=>?_) <;> first|(exfalso;omega)|(refine hQ_ _ _ ?_;clear hQ_ Q_))|(refine zBw (Q:=Q_) (fun hp_=>?_) (fun hp_=>?_) <;> first|(exfalso;omega)|(refine hQ_ _ _ ?_;clear hQ_ Q_))|(refine hQ_ _ _ ?_;clear hQ_ Q_)|(refine zOv (c1 _ _ (by first|omega|(simp only [List.length_append,List.length_cons,List.length_nil];omega))) ?_;refine hQ_ _ _ ?_;clear hQ_ Q_)))
  | (refine zHz fun K_ hK_=>?_;simp (disch:=omega) only [zFv,zAz,zHy,↓reduceIte,reduceCtorEq,Nat.reduceEqDiff,Nat.reduceLT];refine hK_ _ ?_;clear hK_ K_)))
      refine zJv (i+1) (by omega) ⟨hlt,by simp only [zAz,↓reduceIte,reduceCtorEq,Nat.reduceEqDiff];exact g2,by simp only [zAz,↓reduceIte,reduceCtorEq,Nat.reduceEqDiff];exact g4,by simp only [zAz,↓reduceIte,reduceCtorEq,Nat.reduceEqDiff];exact g5,by simp only [zAz,↓reduceIte,reduceCtorEq,Nat.reduceEqDiff];exact g8,by simp only [zAz,↓reduceIte,reduceCtorEq,Nat.reduceEqDiff];exact g9,by simp only [zAz,↓reduceIte,reduceCtorEq,Nat.reduceEqDiff];rfl,rfl,_,?_,?_,by rw [hS2]⟩
      all_goals omega
    · have:i=bs.length:=by omega
      subst this
      unfold wd
      (repeat' (first
  | (with_reducible first|refine zJx ?_|refine zGw ?_|refine zFz ?_|refine zEv ?_|refine zFy ?_|refine zJw ?_|refine zGv ?_|refine zCz ?_|refine zDw ?_|refine zCy ?_|refine zCv ?_|refine zEx ?_|refine zDz ?_|refine zCx ?_|refine zBx ?_|refine zEz ?_|refine zEy ?_|refine zAw ?_|refine zBy ?_)
  | refine zDy ?_|refine zEw rfl ?_|refine zIv ?_|refine zJy ?_
  | ((first|refine zGx rfl rfl rfl rfl rfl fun K_ hK_=>?_|refine zGy rfl rfl rfl rfl rfl fun K_ hK_=>?_);simp only [zAz,zDx,zGz,↓reduceIte,reduceCtorEq,Nat.reduceEqDiff,Bool.not_true,Bool.not_false];refine hK_ _ ?_;clear hK_ K_)
  | refine zDv (by decide) ?_
  | ((try first|refine zKy rfl rfl rfl ?_|refine zIw rfl rfl ?_|refine zKx rfl rfl rfl ?_|refine zJz rfl rfl ?_);(refine zIx fun Q_ hQ_=>?_;simp (disch:=first|omega|(simp only [List.length_cons,List.length_nil,List.length_append];omega)) only [bb,bp,zKv,↓reduceIte,reduceCtorEq,Nat.reduceEqDiff,Nat.reduceLT,Nat.reduceLeDiff,Nat.reduceAdd,Nat.reduceMul,Nat.reduceSub,Nat.reduceBEq,Int.reduceToNat,cond_true,cond_false,eq_self,beq_self_eq_true,hl,g2,g4,g5,g8,g9,g10,zFx wf,zHx wf,zBv wf,zFw wf,zAy wf,zAx,tEvZ6,zIy,zIz,zHv,zHw,zAv wf];first|(refine zCw (Q:=Q_) (fun hp_=>?_) (fun hp_=>?_) <;> first|(exfalso;omega)|(refine hQ_ _ _ ?_;clear hQ_ Q_))|(refine zBw (Q:=Q_) (fun hp_=>?_) (fun hp_=>?_) <;> first|(exfalso;omega)|(refine hQ_ _ _ ?_;clear hQ_ Q_))|(refine hQ_ _ _ ?_;clear hQ_ Q_)))
  | (refine zHz fun K_ hK_=>?_;simp (disch:=omega) only [zFv,zAz,zHy,↓reduceIte,reduceCtorEq,Nat.reduceEqDiff,Nat.reduceLT];refine hK_ _ ?_;clear hK_ K_)))
      refine zKw _ _ rfl (retc0 (by decide) (by simp (disch:=first|omega|(simp only [List.length_cons,List.length_nil,List.length_append];omega)) only [bb,bp,zKv,↓reduceIte,reduceCtorEq,Nat.reduceEqDiff,Nat.reduceLT,Nat.reduceLeDiff,Nat.reduceAdd,Nat.reduceMul,Nat.reduceSub,Nat.reduceBEq,Int.reduceToNat,cond_true,cond_false,eq_self,beq_self_eq_true,g4,zBv wf,tEvZ6,zIy,zIz,zHv,zHw,zAv wf];rfl)) ?_
      refine zLy rfl (by omega) ?_
      exact ⟨rfl,rfl⟩
  · exact ⟨by omega,rfl,rfl,rfl,rfl,rfl,rfl,rfl,h.clock,by omega,by omega,by rw [show st L m 0=0 from rfl];rfl⟩

theorem run_ (T Ln:Nat) (a:AV) (fa:AV.cells a=[a]∧oneB a=true) (h:H) (wf:Wf h) (L:List AO) (w:Nat) (hw:w≤h.clock+L.length) :
    (om Try.prog KK).call (.fn 43 [.agg (rg T Ln),a]) (X h L w) = .ok (.fn 67 [] [.ptr (nx h L.length) 0,.ptr (nx h (L.length+1)) 0]) (X h (L++[.cells (zBz (rg T Ln)) 59,.cells (zBz [a]) 22]) w):=by
  obtain ⟨f1,f2⟩:=fa
  have key : ∀ hb,Wf hb→(om Try.prog KK).call (.fn 43 [.agg (rg T Ln),a]) hb = .ok (.fn 67 [] [.ptr (nx hb 0) 0,.ptr (nx hb 1) 0]) (X hb [.cells (zBz (rg T Ln)) 59,.cells (zBz [a]) 22] hb.w):=by
    clear hw wf h
    intro h wf
    refine ySx (zMy (fn:=Try.f43) Try.func43 rfl rfl rfl rfl rfl ?_)
    simp only [zKv]
    unfold rg
    (repeat' (first
  | (with_reducible first|refine zJx ?_|refine zGw ?_|refine zFz ?_|refine zEv ?_|refine zFy ?_|refine zJw ?_|refine zGv ?_|refine zCz ?_|refine zDw ?_|refine zCy ?_|refine zCv ?_|refine zEx ?_|refine zDz ?_|refine zCx ?_|refine zBx ?_|refine zEz ?_|refine zEy ?_|refine zAw ?_|refine zBy ?_)
  | refine zDy ?_|refine zEw rfl ?_|refine zIv ?_|refine zJy ?_
  | ((first|refine zGx rfl rfl rfl rfl rfl fun K_ hK_=>?_|refine zGy rfl rfl rfl rfl rfl fun K_ hK_=>?_);simp only [zAz,zDx,zGz,↓reduceIte,reduceCtorEq,Nat.reduceEqDiff,Bool.not_true,Bool.not_false];refine hK_ _ ?_;clear hK_ K_)
  | refine zDv (by decide) ?_
  | ((try first|refine zKy rfl rfl rfl ?_|refine zIw rfl rfl ?_|refine zKx rfl rfl rfl ?_|refine zJz rfl rfl ?_);(refine zIx fun Q_ hQ_=>?_;simp (disch:=first|omega|(simp only [List.length_cons,List.length_nil,List.length_append];omega)) only [bb,bp,zKv,↓reduceIte,reduceCtorEq,Nat.reduceEqDiff,Nat.reduceLT,Nat.reduceLeDiff,Nat.reduceAdd,Nat.reduceMul,Nat.reduceSub,Nat.reduceBEq,Int.reduceToNat,cond_true,cond_false,eq_self,beq_self_eq_true,f1,f2,zFx wf,zHx wf,zBv wf,zFw wf,zAy wf,zAx,tEvZ6,zIy,zIz,zHv,zHw,zAv wf];first|(refine zCw (Q:=Q_) (fun hp_=>?_) (fun hp_=>?_) <;> first|(exfalso;omega)|(refine hQ_ _ _ ?_;clear hQ_ Q_))|(refine zBw (Q:=Q_) (fun hp_=>?_) (fun hp_=>?_) <;> first|(exfalso;omega)|(refine hQ_ _ _ ?_;clear hQ_ Q_))|(refine hQ_ _ _ ?_;clear hQ_ Q_)))
  | (refine zHz fun K_ hK_=>?_;simp (disch:=omega) only [zFv,zAz,zHy,↓reduceIte,reduceCtorEq,Nat.reduceEqDiff,Nat.reduceLT];refine hK_ _ ?_;clear hK_ K_)))
    refine zKw _ _ rfl (ret1 (by decide)) ?_
    simp only [zAz,↓reduceIte,reduceCtorEq,Nat.reduceEqDiff]
    refine WV_ext (by exact Bool.and_false _) ?_
    refine ⟨rfl,?_⟩
    congr 1
    have:=wf.wle
    omega
  rw [key _ (wf.X hw),X_X,nx_X,nx_X,X_w]
  rfl

theorem runs (T Ln:Nat) (hT:T<2 ^ 128) (hL:Ln≤128) (bs:List Bool) (hb:bs.length=Ln) (m:Nat→Bool) (hm:IsRun T Ln (fun i=>bs.getD i false) m) (a:AV) {h:H} (wf:Wf h) (hs:Sl h a 1 bs.length (bs.map bi)) (fa:AV.cells a=[a]∧oneB a=true)
    (A p N:Nat) (hN:0<N) (l:Pos) (L0:List AO) (w0:Nat) (hw0:w0≤h.clock+L0.length) (hlo:h.clock≤w0) (I:Nat→List AO→Prop) (D:List AO→Prop)
    (hI : ∀ q L,I q L→L.length=L0.length∧L[A]? = some (.cells (zBz (rg T Ln)) 59)∧L[p]? = some (.cells (zBz [a]) 22))
    (hy : ∀ q,q<N → ∀ L J w,I q L→h.clock≤w→w≤h.clock+(L.length+J.length)→WV ((om Try.prog KK).call (.yld l [bi (m (Ln+q))]) (X h (L++J) w)) fun v h'=>∃ L' J' w',h'=X h (L'++(J++J')) w'∧h.clock≤w'∧w'<h.clock+L0.length∧(v = .bool true∧q+1<N∧I (q+1) L'∨v = .bool false∧L'.length=L0.length∧D L'))
    (h0:I 0 L0) :
    WV (callV Try.prog (om Try.prog KK) (.fn 67 [] [.ptr (nx h A) 0,.ptr (nx h p) 0]) [.yld l] (X h L0 w0)) fun _ h'=>∃ L J w,h'=X h (L++J) w∧h.clock≤w∧w≤h.clock+L.length∧L.length=L0.length∧D L:=by
  obtain ⟨f1,f2⟩:=fa
  obtain ⟨-,a0,p0⟩:=hI 0 L0 h0
  rw [xRy,zSz]
  show WV ((om Try.prog KK).call (.fn 67 [.yld l,.ptr (nx h A) 0,.ptr (nx h p) 0]) (X h L0 w0)) _
  have wfb:=wf.X hw0
  have ldA : ∀ {L:List AO},L[A]? = some (.cells (zBz (rg T Ln)) 59) → ∀ J w,loadAgg (nx h A) 0 (some 3) (X h (L++J) w)=some (.agg [uu (T % 2 ^ 64),uu (T >>> 64),ii (Ln:Int)]):=fun {L} hL J w=>by
    rw [zBv wf,List.getElem?_append_left (zLv hL),hL,yWx (by decide)]
    rfl
  have ldA0 : ∀ J w,loadAgg (nx h A) 0 (some 3) (X (X h L0 w0) J w)=some (.agg [uu (T % 2 ^ 64),uu (T >>> 64),ii (Ln:Int)]):=fun J w=>by rw [X_X];exact ldA a0 J w
  have ldp0 : ∀ J w,load1 (nx h p) 0 (X (X h L0 w0) J w)=some a:=fun J w=>by
    rw [X_X,zHx wf,List.getElem?_append_left (zLv p0),p0]
    rfl
  have hmb : ∀ i (hi:i<bs.length),m i=bs[i]:=fun i hi=>by
    rw [hm.first i (by omega)];simp [List.getD_eq_getElem?_getD,List.getElem?_eq_getElem hi]
  have cb : ∀ (J:List AO) (w:Nat),w≤h.clock+(L0.length+J.length)→(om Try.prog KK).call (.fn 68 [.agg [uu (T % 2 ^ 64),uu (T >>> 64),ii (Ln:Int)],a]) (X (X h L0 w0) J w) = .ok (.agg [uu (st Ln m Ln % 2 ^ 64),uu (st Ln m Ln >>> 64)]) (X (X h L0 w0) J w):=fun J w hw=>by
    have:=begun T Ln hL bs (by omega) m hmb a (X (X h L0 w0) J w) (wfb.X (by rw [xOy];omega)) ((hs.up wf _ _).up wfb _ _)
    rw [hb] at this
    exact this
  have hst0 : ∀ (a b:Nat) (c d:AV) w,writeCells (nx h L0.length) 0 [uu a,uu b] (X (X h L0 w0) [.cells (zBz [c,d]) 78] w)=some (X (X h L0 w0) [.cells (zBz [uu a,uu b]) 78] (min (h.clock+L0.length) w)):=fun a b c d w=>by
    rw [X_X,zAy wf,List.getElem?_append_right (Nat.le_refl _),Nat.sub_self,List.getElem?_cons_zero,yVy]
    have ho:allOne [uu a,uu b]=true:=rfl
    rw [ho,cond_true,if_pos (by show 0+2≤2;decide)]
    show some (X h ((L0++_).set L0.length _) _)=_
    rw [List.set_append_right _ _ (Nat.le_refl _),Nat.sub_self,List.set_cons_zero,X_X]
    rfl
  refine zMy (fn:=Try.f67) Try.func67 rfl rfl rfl rfl rfl ?_
  simp only [zKv]
  (repeat' (first
  | (with_reducible first|refine zJx ?_|refine zGw ?_|refine zFz ?_|refine zEv ?_|refine zFy ?_|refine zJw ?_|refine zGv ?_|refine zCz ?_|refine zDw ?_|refine zCy ?_|refine zCv ?_|refine zEx ?_|refine zDz ?_|refine zCx ?_|refine zBx ?_|refine zEz ?_|refine zEy ?_|refine zAw ?_|refine zBy ?_)
  | refine zDy ?_|refine zEw rfl ?_|refine zIv ?_|refine zJy ?_
  | ((first|refine zGx rfl rfl rfl rfl rfl fun K_ hK_=>?_|refine zGy rfl rfl rfl rfl rfl fun K_ hK_=>?_);simp only [zAz,zDx,zGz,↓reduceIte,reduceCtorEq,Nat.reduceEqDiff,Bool.not_true,Bool.not_false];refine hK_ _ ?_;clear hK_ K_)
  | refine zDv (by decide) ?_
  | ((try first|refine zKy rfl rfl rfl ?_|refine zIw rfl rfl ?_|refine zKx rfl rfl rfl ?_|refine zJz rfl rfl ?_);(refine zIx fun Q_ hQ_=>?_;simp (disch:=first|omega|(simp only [List.length_cons,List.length_nil,List.length_append];omega)) only [bb,bp,zKv,↓reduceIte,reduceCtorEq,Nat.reduceEqDiff,Nat.reduceLT,Nat.reduceLeDiff,Nat.reduceAdd,Nat.reduceMul,Nat.reduceSub,Nat.reduceBEq,Int.reduceToNat,cond_true,cond_false,eq_self,beq_self_eq_true,ldA0,ldp0,zFx wfb,hst0,tEvZ6,zIy,zIz,zHv,zHw,zAv wf];first|(refine zCw (Q:=Q_) (fun hp_=>?_) (fun hp_=>?_) <;> first|(exfalso;omega)|(refine hQ_ _ _ ?_;clear hQ_ Q_))|(refine zBw (Q:=Q_) (fun hp_=>?_) (fun hp_=>?_) <;> first|(exfalso;omega)|(refine hQ_ _ _ ?_;clear hQ_ Q_))|(refine hQ_ _ _ ?_;clear hQ_ Q_)|(refine zOv (cb _ _ (by simp only [xOy,List.length_nil];omega)) ?_;refine hQ_ _ _ ?_;clear hQ_ Q_)))
  | (refine zHz fun K_ hK_=>?_;simp (disch:=omega) only [zFv,zAz,zHy,↓reduceIte,reduceCtorEq,Nat.reduceEqDiff,Nat.reduceLT];refine hK_ _ ?_;clear hK_ K_)))
  refine zOw (α:=Nat) (fun (q:Nat) f d h'=>q<N∧f 0 = .yld l∧f 1 = .ptr (nx h A) 0∧f 2 = .ptr (nx h p) 0∧f 4 = .ptr (nx h L0.length) 0∧d=[] ∧
    ∃ L J w,h'=X h (L ++ .cells (zBz (wd (st Ln m (Ln+q)))) 78 :: J) w∧I q L∧h.clock≤w∧w≤h.clock+L0.length) (fun q=>N - q) ?_ (N+1) 0 (by omega) ?_
  · rintro q f d h' ⟨hq,g0,g1,g2,g4,rfl,L,J,w,rfl,hIq,hw1,hw2⟩
    obtain ⟨hLl,hLA,hLp⟩:=hI q L hIq
    have l1:=ldA hLA
    have lS : ∀ {L:List AO} (S:Nat),L.length=L0.length → ∀ J w,loadAgg (nx h L0.length) 0 (some 2) (X h (L ++ .cells (zBz [uu (S % 2 ^ 64),uu (S >>> 64)]) 78 :: J) w)=some (.agg [uu (S % 2 ^ 64),uu (S >>> 64)]):=fun {L} S hl J w=>by
      rw [zBv wf,← hl,List.getElem?_append_right (Nat.le_refl _),Nat.sub_self,List.getElem?_cons_zero,yWx (by decide)]
      rfl
    have lS1:=lS (L:=L) (st Ln m (Ln+q)) hLl
    have e1:m (Ln+q)=nextB T (st Ln m (Ln+q)):=by rw [hm.then_ _ (by omega),next_st hL m (by omega)]
    have e2:st Ln m (Ln+(q+1))=aft Ln (st Ln m (Ln+q)) (m (Ln+q)):=rfl
    have c1 : ∀ (J:List AO) (w:Nat),w≤h.clock+J.length→(om Try.prog KK).call (.fn 69 [.agg [uu (T % 2 ^ 64),uu (T >>> 64),ii (Ln:Int)],.agg [uu (st Ln m (Ln+q) % 2 ^ 64),uu (st Ln m (Ln+q) >>> 64)]]) (X h J w) = .ok (bi (m (Ln+q))) (X h J w):=fun J w hw=>by rw [e1];exact next T Ln _ hT _ (wf.X hw)
    have c2 : ∀ (J:List AO) (w:Nat),w≤h.clock+J.length→(om Try.prog KK).call (.fn 70 [.agg [uu (T % 2 ^ 64),uu (T >>> 64),ii (Ln:Int)],.agg [uu (st Ln m (Ln+q) % 2 ^ 64),uu (st Ln m (Ln+q) >>> 64)],bi (m (Ln+q))]) (X h J w) = .ok (.agg [uu (st Ln m (Ln+(q+1)) % 2 ^ 64),uu (st Ln m (Ln+(q+1)) >>> 64)]) (X h J w):=fun J w hw=>by rw [e2];exact after T Ln _ _ hL _ (wf.X hw)
    have hyq:=hy q hq
    generalize st Ln m (Ln+q)=S at *
    generalize hS2:st Ln m (Ln+(q+1))=S2 at *
    generalize hbm:bi (m (Ln+q))=bm at *
    unfold wd
    (repeat' (first
  | (with_reducible first|refine zJx ?_|refine zGw ?_|refine zFz ?_|refine zEv ?_|refine zFy ?_|refine zJw ?_|refine zGv ?_|refine zCz ?_|refine zDw ?_|refine zCy ?_|refine zCv ?_|refine zEx ?_|refine zDz ?_|refine zCx ?_|refine zBx ?_|refine zEz ?_|refine zEy ?_|refine zAw ?_|refine zBy ?_)
  | refine zDy ?_|refine zEw rfl ?_|refine zIv ?_|refine zJy ?_
  | ((first|refine zGx rfl rfl rfl rfl rfl fun K_ hK_=>?_|refine zGy rfl rfl rfl rfl rfl fun K_ hK_=>?_);simp only [zAz,zDx,zGz,↓reduceIte,reduceCtorEq,Nat.reduceEqDiff,Bool.not_true,Bool.not_false];refine hK_ _ ?_;clear hK_ K_)
  | refine zDv (by decide) ?_
  | ((try first|refine zKy rfl rfl rfl ?_|refine zIw rfl rfl ?_|refine zKx rfl rfl rfl ?_|refine zJz rfl rfl ?_);(refine zIx fun Q_ hQ_=>?_;simp (disch:=first|omega|(simp only [List.length_cons,List.length_nil,List.length_append];omega)) only [bb,bp,zKv,↓reduceIte,reduceCtorEq,Nat.reduceEqDiff,Nat.reduceLT,Nat.reduceLeDiff,Nat.reduceAdd,Nat.reduceMul,Nat.reduceSub,Nat.reduceBEq,Int.reduceToNat,cond_true,cond_false,eq_self,beq_self_eq_true,g0,g1,g2,g4,l1,lS1,tEvZ6,zIy,zIz,zHv,zHw,zAv wf];first|(refine zCw (Q:=Q_) (fun hp_=>?_) (fun hp_=>?_) <;> first|(exfalso;omega)|(refine hQ_ _ _ ?_;clear hQ_ Q_))|(refine zBw (Q:=Q_) (fun hp_=>?_) (fun hp_=>?_) <;> first|(exfalso;omega)|(refine hQ_ _ _ ?_;clear hQ_ Q_))|(refine hQ_ _ _ ?_;clear hQ_ Q_)|(refine zOv (c1 _ _ (by first|omega|(simp only [List.length_append,List.length_cons,List.length_nil];omega))) ?_;refine hQ_ _ _ ?_;clear hQ_ Q_)))
  | (refine zHz fun K_ hK_=>?_;simp (disch:=omega) only [zFv,zAz,zHy,↓reduceIte,reduceCtorEq,Nat.reduceEqDiff,Nat.reduceLT];refine hK_ _ ?_;clear hK_ K_)))
    refine zKy rfl rfl rfl ?_
    refine zIx fun Q_ hQ_=>?_
    simp (disch:=first|omega|(simp only [List.length_cons,List.length_nil,List.length_append];omega)) only [bb,bp,zKv,↓reduceIte,reduceCtorEq,Nat.reduceEqDiff,Nat.reduceLT,Nat.reduceLeDiff,Nat.reduceAdd,Nat.reduceMul,Nat.reduceSub,Nat.reduceBEq,Int.reduceToNat,cond_true,cond_false,eq_self,beq_self_eq_true,g0,callV_yld,tEvZ6,zIy,zIz,zHv,zHw,zAv wf]
    refine (hyq L (.cells (zBz [uu (S % 2 ^ 64),uu (S >>> 64)]) 78 :: J) _ hIq (by omega) (by rw [hLl];omega)).mono ?_
    rintro v h' ⟨L',J',w',rfl,hw4,hw5,hv⟩
    rcases hv with ⟨rfl,hqN,hI3⟩|⟨rfl,hl3,hD⟩
    · refine hQ_ _ _ ?_
      clear hQ_ Q_
      obtain ⟨hl4,hA4,hp4⟩:=hI (q+1) L' hI3
      have l2:=ldA hA4
      have lS2:=lS (L:=L') S hl4
      simp only [List.cons_append]
      have hst : ∀ J w,writeCells (nx h L0.length) 0 [uu (S2 % 2 ^ 64),uu (S2 >>> 64)] (X h (L' ++ .cells (zBz [uu (S % 2 ^ 64),uu (S >>> 64)]) 78 :: J) w)=some (X h (L' ++ .cells (zBz [uu (S2 % 2 ^ 64),uu (S2 >>> 64)]) 78 :: J) (min (h.clock+L0.length) w)):=fun J w=>by
        rw [zAy wf,← hl4,List.getElem?_append_right (Nat.le_refl _),Nat.sub_self,List.getElem?_cons_zero,yVy]
        have ho:allOne [uu (S2 % 2 ^ 64),uu (S2 >>> 64)]=true:=rfl
        rw [ho,cond_true,if_pos (by show 0+2≤2;decide)]
        show some (X h ((L'++_).set L'.length _) _)=_
        rw [List.set_append_right _ _ (Nat.le_refl _),Nat.sub_self,List.set_cons_zero]
        rfl
      (repeat' (first
  | (with_reducible first|refine zJx ?_|refine zGw ?_|refine zFz ?_|refine zEv ?_|refine zFy ?_|refine zJw ?_|refine zGv ?_|refine zCz ?_|refine zDw ?_|refine zCy ?_|refine zCv ?_|refine zEx ?_|refine zDz ?_|refine zCx ?_|refine zBx ?_|refine zEz ?_|refine zEy ?_|refine zAw ?_|refine zBy ?_)
  | refine zDy ?_|refine zEw rfl ?_|refine zIv ?_|refine zJy ?_
  | ((first|refine zGx rfl rfl rfl rfl rfl fun K_ hK_=>?_|refine zGy rfl rfl rfl rfl rfl fun K_ hK_=>?_);simp only [zAz,zDx,zGz,↓reduceIte,reduceCtorEq,Nat.reduceEqDiff,Bool.not_true,Bool.not_false];refine hK_ _ ?_;clear hK_ K_)
  | refine zDv (by decide) ?_
  | ((try first|refine zKy rfl rfl rfl ?_|refine zIw rfl rfl ?_|refine zKx rfl rfl rfl ?_|refine zJz rfl rfl ?_);(refine zIx fun Q_ hQ_=>?_;simp (disch:=first|omega|(simp only [List.length_cons,List.length_nil,List.length_append];omega)) only [bb,bp,zKv,↓reduceIte,reduceCtorEq,Nat.reduceEqDiff,Nat.reduceLT,Nat.reduceLeDiff,Nat.reduceAdd,Nat.reduceMul,Nat.reduceSub,Nat.reduceBEq,Int.reduceToNat,cond_true,cond_false,eq_self,beq_self_eq_true,g0,g1,g2,g4,l2,lS2,hst,tEvZ6,zIy,zIz,zHv,zHw,zAv wf];first|(refine zCw (Q:=Q_) (fun hp_=>?_) (fun hp_=>?_) <;> first|(exfalso;omega)|(refine hQ_ _ _ ?_;clear hQ_ Q_))|(refine zBw (Q:=Q_) (fun hp_=>?_) (fun hp_=>?_) <;> first|(exfalso;omega)|(refine hQ_ _ _ ?_;clear hQ_ Q_))|(refine hQ_ _ _ ?_;clear hQ_ Q_)|(refine zOv (c2 _ _ (by first|omega|(simp only [List.length_append,List.length_cons,List.length_nil];omega))) ?_;refine hQ_ _ _ ?_;clear hQ_ Q_)))
  | (refine zHz fun K_ hK_=>?_;simp (disch:=omega) only [zFv,zAz,zHy,↓reduceIte,reduceCtorEq,Nat.reduceEqDiff,Nat.reduceLT];refine hK_ _ ?_;clear hK_ K_)))
      refine zJv (q+1) (by omega) ⟨hqN,by simp only [zAz,↓reduceIte,reduceCtorEq,Nat.reduceEqDiff];exact g0,by simp only [zAz,↓reduceIte,reduceCtorEq,Nat.reduceEqDiff];exact g1,by simp only [zAz,↓reduceIte,reduceCtorEq,Nat.reduceEqDiff];exact g2,by simp only [zAz,↓reduceIte,reduceCtorEq,Nat.reduceEqDiff];exact g4,rfl,L',J++J',_,by rw [hS2],hI3,?_,?_⟩
      all_goals omega
    · refine hQ_ _ _ ?_
      clear hQ_ Q_
      (repeat' (first
  | (with_reducible first|refine zJx ?_|refine zGw ?_|refine zFz ?_|refine zEv ?_|refine zFy ?_|refine zJw ?_|refine zGv ?_|refine zCz ?_|refine zDw ?_|refine zCy ?_|refine zCv ?_|refine zEx ?_|refine zDz ?_|refine zCx ?_|refine zBx ?_|refine zEz ?_|refine zEy ?_|refine zAw ?_|refine zBy ?_)
  | refine zDy ?_|refine zEw rfl ?_|refine zIv ?_|refine zJy ?_
  | ((first|refine zGx rfl rfl rfl rfl rfl fun K_ hK_=>?_|refine zGy rfl rfl rfl rfl rfl fun K_ hK_=>?_);simp only [zAz,zDx,zGz,↓reduceIte,reduceCtorEq,Nat.reduceEqDiff,Bool.not_true,Bool.not_false];refine hK_ _ ?_;clear hK_ K_)
  | refine zDv (by decide) ?_
  | ((try first|refine zKy rfl rfl rfl ?_|refine zIw rfl rfl ?_|refine zKx rfl rfl rfl ?_|refine zJz rfl rfl ?_);(refine zIx fun Q_ hQ_=>?_;simp (disch:=first|omega|(simp only [List.length_cons,List.length_nil,List.length_append];omega)) only [bb,bp,zKv,↓reduceIte,reduceCtorEq,Nat.reduceEqDiff,Nat.reduceLT,Nat.reduceLeDiff,Nat.reduceAdd,Nat.reduceMul,Nat.reduceSub,Nat.reduceBEq,Int.reduceToNat,cond_true,cond_false,eq_self,beq_self_eq_true,g4,tEvZ6,zIy,zIz,zHv,zHw,zAv wf];first|(refine zCw (Q:=Q_) (fun hp_=>?_) (fun hp_=>?_) <;> first|(exfalso;omega)|(refine hQ_ _ _ ?_;clear hQ_ Q_))|(refine zBw (Q:=Q_) (fun hp_=>?_) (fun hp_=>?_) <;> first|(exfalso;omega)|(refine hQ_ _ _ ?_;clear hQ_ Q_))|(refine hQ_ _ _ ?_;clear hQ_ Q_)))
  | (refine zHz fun K_ hK_=>?_;simp (disch:=omega) only [zFv,zAz,zHy,↓reduceIte,reduceCtorEq,Nat.reduceEqDiff,Nat.reduceLT];refine hK_ _ ?_;clear hK_ K_)))
      refine zKw _ (.tup []) rfl rfl ?_
      rw [← X_X h L' (.cells (zBz [uu (S % 2 ^ 64),uu (S >>> 64)]) 78 :: (J++J')) w' w']
      refine WV_out (by rw [xOy];exact hw5) ?_
      rw [X_X,X_w]
      exact ⟨L',_,_,rfl,by omega,by omega,hl3,hD⟩
  · exact ⟨hN,by simp only [zAz,↓reduceIte,reduceCtorEq,Nat.reduceEqDiff],by simp only [zAz,↓reduceIte,reduceCtorEq,Nat.reduceEqDiff],by simp only [zAz,↓reduceIte,reduceCtorEq,Nat.reduceEqDiff],by simp only [zAz,↓reduceIte,reduceCtorEq,Nat.reduceEqDiff],rfl,L0,[],_,by rw [X_X];rfl,h0,by rw [xOy];omega,by rw [xOy];omega⟩
end Go.Proofs.Ytmincoafjnnkpaa
end

section
namespace Go.Ev
section
variable {P:Program} {K:List Con}
def YRC (lo c d:Nat) (hb:H) (J:List AO) (w:Nat) (I D:H→Prop):AV→H→Prop:=fun v h'=>∃ hb' J' w',h'=X hb' (J++J') w'∧Same hb hb'∧lo≤w'∧w'≤w∧(v = .bool true∧w'<c∧I hb'∨v = .bool false∧w'<d∧D hb')
def HandsC (P:Program) (K:List Con) (B:H→Prop) (fv:AV) (xs:List (List AV)):Prop:=
  ∀ (l:Pos) (hb0:H) (I:Nat→H→Prop) (D:H→Prop) (lo:Nat) (c:Nat→Nat) (d:Nat),lo≤hb0.w→hb0.w≤hb0.clock→(∀ k,c k≤hb0.clock)→d≤hb0.clock→(∀ i h,I i h→B h∧Same hb0 h)→(∀ h,D h→Wf h) →
    (∀ i x,xs[i]? = some x → ∀ hb J w,I i hb→lo≤w→w≤hb.clock+J.length→WV ((om P K).call (.yld l x) (X hb J w)) (YRC lo (c i) d hb J w (I (i+1)) D)) →
    I 0 hb0→WV (callV P (om P K) fv [.yld l] hb0) fun _ h'=>∃ hb J w,h'=X hb J w∧Same hb0 hb∧lo≤w∧w≤hb0.w∧(I xs.length hb∧(∀ k,k<xs.length→w<c k)∨D hb∧w<d)
theorem HandsC.mono {B B':H→Prop} {fv:AV} {xs:List (List AV)} (hd:HandsC P K B fv xs) (k : ∀ h,B' h→B h):HandsC P K B' fv xs:=
  fun l hb0 I D lo c d hlo hlw hc hdc hI hD hy h0=>hd l hb0 I D lo c d hlo hlw hc hdc (fun i h hi=>⟨k h (hI i h hi).1,(hI i h hi).2⟩) hD hy h0
def cmin (c:Nat→Nat) (b:Nat):Nat→Nat
  | 0=>c b
  | n+1=>min (cmin c b n) (c (b+(n+1)))
end
end Go.Ev
namespace Go.Ev
end Go.Ev
end

section
namespace Go.Ev
def NotT (t:TypeId) (o:AO):Prop:=∀ m,o ≠ .cells m t
def Chg (t:TypeId) (J J2:List AO):Prop:=J2.length=J.length ∧ ∀ (k:Nat) (o:AO),J[k]? = some o→NotT t o→J2[k]? = some o
def Keep (t:TypeId) (J J2:List AO):Prop:=∀ (k:Nat) m,J[k]? = some (.cells m t)→J2[k]? = some (.cells m t)
theorem Chg.rfl' {t:TypeId} (J:List AO):Chg t J J:=⟨rfl,fun _ _ h _=>h⟩
theorem Chg.trans {t:TypeId} {A B C:List AO} (x:Chg t A B) (y:Chg t B C):Chg t A C:=⟨y.1.trans x.1,fun k o h n=>y.2 k o (x.2 k o h n) n⟩
theorem Keep.rfl' {t:TypeId} (J:List AO):Keep t J J:=fun _ _ h=>h
theorem Keep.trans {t:TypeId} {A B C:List AO} (x:Keep t A B) (y:Keep t B C):Keep t A C:=fun k m h=>y k m (x k m h)
theorem Chg.cons {t:TypeId} {o:AO} {L Z:List AO} (x:Chg t (o :: L) Z) (hn:NotT t o) : ∃ Z',Z=o :: Z'∧Chg t L Z':=by
  obtain ⟨hl,hk⟩:=x
  have h0:=hk 0 o rfl hn
  match Z,h0,hl,hk with
  | z :: Z,h0,hl,hk=>
    simp only [List.getElem?_cons_zero,Option.some.injEq] at h0
    subst h0
    exact ⟨Z,rfl,by simpa using hl,fun k o' h n=>by have:=hk (k+1) o' (by simpa using h) n;simpa using this⟩
theorem Chg.app {t:TypeId} {A B Z:List AO} (x:Chg t (A++B) Z) : ∃ A' B',Z=A'++B'∧Chg t A A'∧Chg t B B':=by
  obtain ⟨hl,hk⟩:=x
  rw [List.length_append] at hl
  refine ⟨Z.take A.length,Z.drop A.length,(List.take_append_drop _ _).symm,⟨by rw [List.length_take];omega,fun k o h n=>?_⟩,⟨by rw [List.length_drop];omega,fun k o h n=>?_⟩⟩
  · have hlt:=zLv h
    rw [List.getElem?_take,if_pos hlt]
    exact hk k o (by rw [List.getElem?_append_left hlt];exact h) n
  · rw [List.getElem?_drop]
    exact hk _ o (by rw [List.getElem?_append_right (by omega),show A.length+k - A.length=k from by omega];exact h) n
theorem Keep.cons {t:TypeId} {o o':AO} {L L':List AO} (x:Keep t L L') (hn:NotT t o):Keep t (o :: L) (o' :: L'):=fun k m h=>by
  cases k with
  | zero=>simp only [List.getElem?_cons_zero,Option.some.injEq] at h;exact absurd h (hn m)
  | succ k=>simp only [List.getElem?_cons_succ] at h ⊢;exact x k m h
theorem Keep.app {t:TypeId} {A A' B B':List AO} (hl:A'.length=A.length) (x:Keep t A A') (y:Keep t B B'):Keep t (A++B) (A'++B'):=fun k m h=>by
  rcases Nat.lt_or_ge k A.length with hk|hk
  · rw [List.getElem?_append_left hk] at h
    rw [List.getElem?_append_left (by omega)]
    exact x k m h
  · rw [List.getElem?_append_right hk] at h
    rw [List.getElem?_append_right (by omega),hl]
    exact y _ m h
theorem Keep.more {t:TypeId} (J A:List AO):Keep t J (J++A):=fun k m h=>by rw [List.getElem?_append_left (zLv h)];exact h
theorem Keep.nil {t:TypeId} (A:List AO):Keep t [] A:=fun k m h=>by simp at h
theorem Keep.set {t:TypeId} {L:List AO} {k:Nat} {o o':AO} (h:L[k]? = some o) (hn:NotT t o):Keep t L (L.set k o'):=fun j m hj=>by
  by_cases e:k=j
  · subst e;rw [h] at hj;cases hj;exact absurd rfl (hn m)
  · rw [List.getElem?_set_ne e];exact hj
section
variable {P:Program} {K:List Con}
def YRJ (t:TypeId) (lo c d:Nat) (hb:H) (J:List AO) (w:Nat) (I D:H→List AO→Prop):AV→H→Prop:=fun v h'=>∃ hb' J2 J' w',h'=X hb' (J2++J') w'∧Same hb hb'∧Chg t J J2∧lo≤w'∧w'≤w∧(v = .bool true∧w'<c∧I hb' (J2++J')∨v = .bool false∧w'<d∧D hb' (J2++J'))
def HandsJ (P:Program) (K:List Con) (t:TypeId) (B:H→Prop) (fv:AV) (xs:List (List AV)):Prop:=
  ∀ (l:Pos) (hb0:H) (I:Nat→H→List AO→Prop) (D:H→List AO→Prop) (lo:Nat) (c:Nat→Nat) (d:Nat),lo≤hb0.w→hb0.w≤hb0.clock→(∀ k,c k≤hb0.clock)→d≤hb0.clock→(∀ i h J,I i h J→B h∧Same hb0 h)→(∀ h J,D h J→Wf h) →
    (∀ i h J J2,I i h J→Keep t J J2→I i h J2)→(∀ h J J2,D h J→Keep t J J2→D h J2) →
    (∀ i x,xs[i]? = some x → ∀ hb J w,I i hb J→lo≤w→w≤hb.clock+J.length→WV ((om P K).call (.yld l x) (X hb J w)) (YRJ t lo (c i) d hb J w (I (i+1)) D)) →
    I 0 hb0 []→WV (callV P (om P K) fv [.yld l] hb0) fun _ h'=>∃ hb J w,h'=X hb J w∧Same hb0 hb∧lo≤w∧w≤hb0.w∧(I xs.length hb J∧(∀ k,k<xs.length→w<c k)∨D hb J∧w<d)
theorem HandsJ.mono {t:TypeId} {B B':H→Prop} {fv:AV} {xs:List (List AV)} (hd:HandsJ P K t B fv xs) (k : ∀ h,B' h→B h):HandsJ P K t B' fv xs:=
  fun l hb0 I D lo c d hlo hlw hc hdc hI hD mI mD hy h0=>hd l hb0 I D lo c d hlo hlw hc hdc (fun i h J hi=>⟨k h (hI i h J hi).1,(hI i h J hi).2⟩) hD mI mD hy h0
theorem HandsJ.plain {t:TypeId} {B:H→Prop} {fv:AV} {xs:List (List AV)} (hd:HandsJ P K t B fv xs):HandsC P K B fv xs:=
  fun l hb0 I D lo c d hlo hlw hc hdc hI hD hy h0=>hd l hb0 (fun i h _=>I i h) (fun h _=>D h) lo c d hlo hlw hc hdc (fun i h _ hi=>hI i h hi) (fun h _=>hD h) (fun _ _ _ _ h _=>h) (fun _ _ _ h _=>h)
    (fun i x hx hb J w hi hlo hw=>(hy i x hx hb J w hi hlo hw).mono fun v h' ⟨hb',J',w',e,s,h1,h2,hv⟩=>⟨hb',J,J',w',e,s,Chg.rfl' _,h1,h2,hv⟩) h0
end
end Go.Ev
namespace Go.Ev
section
variable {P:Program}
end
end Go.Ev
namespace Go.Ev
theorem Grow.front {h:H} {L0 L1 G:List AO} {v:AV} {sz e len:Nat} {cs:List AV} (g:Grow h L0 G v sz e len cs) (hl:L1.length=L0.length):Grow h L1 G v sz e len cs:=by
  obtain ⟨hc,⟨h0,rfl⟩|⟨idx,rfl,hg⟩⟩:=g
  · exact ⟨hc,.inl ⟨h0,rfl⟩⟩
  · exact ⟨hc,.inr ⟨idx,by rw [hl],hg⟩⟩
end Go.Ev
end

section
namespace Go.Ev
variable {P:Program}
def CapL (a:AV):Prop:=∀ id off l c esz,a = .sl id off l (some c) esz→l≤c
theorem capl_none {id:Pos} {off len esz:Nat} : CapL (.sl id off len none esz):=fun _ _ _ _ _ e=>by simp at e
theorem capl_some {id:Pos} {off len cap esz:Nat} (h:len≤cap):CapL (.sl id off len (some cap) esz):=fun _ _ _ _ _ e=>by
  injection e with e1 e2 e3 e4 e5
  injection e4 with e4
  omega
def CapU (m:Nat) (a:AV):Prop:=CapL a∧Cape m a
theorem Capd.capu {a:AV} (h:Capd a) (m:Nat):CapU m a:=⟨h.2,h.cape m⟩
theorem capu_none {id:Pos} {off len m:Nat} : CapU m (.sl id off len none m):=⟨capl_none,fun _ _ _ _ e=>by injection e with _ _ _ _ e;exact e.symm⟩
theorem capu_some {id:Pos} {off len cap esz m:Nat} (h:len≤cap):CapU m (.sl id off len (some cap) esz):=⟨capl_some h,fun _ _ _ _ e=>by simp at e⟩
end Go.Ev
end

section
namespace Go.Ev
variable {P:Program}
theorem Sl.cut {h:H} {a:AV} {m len:Nat} {cells:List AV} (s:Sl h a m len cells) {lo hi:Option Nat} {l hh:Nat} (hlh:l≤hh) (hhl:hh≤len) (hlo:lo.getD 0=l) (hhi:hi.getD len=hh) {t e:TypeId} (hu:P.underlying t=some (.slice e)) (hz:sizeE P e=some m) (hm:0<m) (hc:CapU m a) :
    ∃ b,sliceE P t (reszT P t a) lo hi none=some b∧Sl h b m (hh - l) ((cells.drop (l * m)).take ((hh - l) * m))∧CapU m b:=by
  have hml:hh * m≤len * m:=Nat.mul_le_mul_right _ hhl
  have hmk:l * m≤hh * m:=Nat.mul_le_mul_right _ hlh
  obtain ⟨hl,⟨rfl,rfl⟩|⟨id,off,cap,esz,o,cs,rfl,hg,hcs,hx⟩⟩:=s
  · have e1:hh=0:=by omega
    have e2:l=0:=by omega
    subst e1 e2
    have hr:reszT P t .nils = .nils:=by unfold reszT;rw [hu];dsimp only;rw [hz];rfl
    have hb:boundsE 0 (some 0) lo hi none=some (0,0,some 0):=by
      unfold boundsE
      show (bif Nat.ble (hi.getD 0) 0 && Nat.ble (lo.getD 0) (hi.getD 0) then some (lo.getD 0,hi.getD 0,some 0) else none)=_
      rw [hhi,hlo];rfl
    refine ⟨.nils,?_,?_,?_⟩
    · rw [hr]
      unfold sliceE;rw [hu];dsimp only;rw [hz,hb]
    · refine ⟨?_,.inl ⟨rfl,rfl⟩⟩
      simp
    · exact Capd.capu capd_nils m
  · have hk : ∀ j,j<(hh - l) * m→cs (off+l * m+j)=((cells.drop (l * m)).take ((hh - l) * m))[j]?:=fun j hj=>by
      rw [List.getElem?_take_of_lt hj,List.getElem?_drop]
      have hj':l * m+j<len * m:=by rw [Nat.sub_mul] at hj;omega
      have:=hx (l * m+j) hj'
      rw [← this,Nat.add_assoc]
    have hln:((cells.drop (l * m)).take ((hh - l) * m)).length=(hh - l) * m:=by
      rw [List.length_take,List.length_drop,hl,Nat.sub_mul];omega
    cases cap with
    | none=>
      have he:esz=m:=hc.2 _ _ _ _ rfl
      subst he
      have hr:reszT P t (.sl id off len none esz) = .sl id off len none esz:=by unfold reszT;rw [hu];dsimp only;rw [hz];rfl
      have hb:boundsE len none lo hi none=some (l,hh,none):=by
        unfold boundsE
        show (bif Nat.ble (hi.getD len) len && Nat.ble (lo.getD 0) (hi.getD len) then some (lo.getD 0,hi.getD len,(none:Option Nat)) else none)=_
        rw [hhi,hlo,Nat.ble_eq_true_of_le hhl,Nat.ble_eq_true_of_le hlh];rfl
      have hof:sliceOf id off esz (some (l,hh,none))=some (.sl id (off+l * esz) (hh - l) none esz):=by
        cases l with
        | zero=>show some (AV.sl id off hh none esz)=_;rw [Nat.zero_mul,Nat.add_zero,Nat.sub_zero]
        | succ l=>
          show (bif Nat.beq (off+(l+1) * esz) 0 then none else some (AV.sl id (off+(l+1) * esz) (hh - (l+1)) none esz))=_
          have:off+(l+1) * esz≠0:=by have:=Nat.mul_pos (Nat.succ_pos l) hm;rw [Nat.succ_eq_add_one] at this;omega
          rw [show Nat.beq (off+(l+1) * esz) 0=false from by cases hb:Nat.beq (off+(l+1) * esz) 0 with|false=>rfl|true=>exact absurd (Nat.eq_of_beq_eq_true hb) this];rfl
      refine ⟨.sl id (off+l * esz) (hh - l) none esz,?_,⟨hln,.inr ⟨_,_,_,_,o,cs,rfl,hg,hcs,hk⟩⟩,capu_none⟩
      rw [hr]
      unfold sliceE;rw [hu];dsimp only;rw [hz];dsimp only
      rw [show Nat.beq esz esz=true from Nat.beq_refl esz,hb];exact hof
    | some c=>
      have hlc:=hc.1 id off len c esz rfl
      have hr:reszT P t (.sl id off len (some c) esz) = .sl id off len (some c) m:=by unfold reszT;rw [hu];dsimp only;rw [hz];rfl
      have hb:boundsE len (some c) lo hi none=some (l,hh,some c):=by
        unfold boundsE
        show (bif Nat.ble (hi.getD len) c && Nat.ble (lo.getD 0) (hi.getD len) then some (lo.getD 0,hi.getD len,some c) else none)=_
        rw [hhi,hlo,Nat.ble_eq_true_of_le (show hh≤c by omega),Nat.ble_eq_true_of_le hlh];rfl
      refine ⟨.sl id (bif Nat.beq c l then off else off+l * m) (hh - l) (some (c - l)) m,?_,⟨hln,.inr ⟨_,_,_,_,o,cs,rfl,hg,hcs,fun j hj=>?_⟩⟩,capu_some (by omega)⟩
      · rw [hr]
        unfold sliceE;rw [hu];dsimp only;rw [hz];dsimp only
        rw [show Nat.beq m m=true from Nat.beq_refl m,hb];rfl
      · rw [← hk j hj]
        cases hbq:Nat.beq c l with
        | true=>
          have:=Nat.eq_of_beq_eq_true hbq
          subst this
          have e:hh - c=0:=by omega
          rw [e,Nat.zero_mul] at hj
          omega
        | false=>rfl
theorem Sl.cutTo {h:H} {a:AV} {m len:Nat} {cells:List AV} (s:Sl h a m len cells) {k:Nat} (hk:k≤len) {t e:TypeId} (hu:P.underlying t=some (.slice e)) (hz:sizeE P e=some m) (hm:0<m) (hc:CapU m a) :
    ∃ b,sliceE P t (reszT P t a) none (some k) none=some b∧Sl h b m k (cells.take (k * m))∧CapU m b:=by
  have:=s.cut (P:=P) (lo:=none) (hi:=some k) (Nat.zero_le k) hk rfl rfl hu hz hm hc
  rwa [Nat.sub_zero,Nat.zero_mul,List.drop_zero] at this
theorem Sl.cutFrom {h:H} {a:AV} {m len:Nat} {cells:List AV} (s:Sl h a m len cells) {k:Nat} (hk:k≤len) {t e:TypeId} (hu:P.underlying t=some (.slice e)) (hz:sizeE P e=some m) (hm:0<m) (hc:CapU m a) :
    ∃ b,sliceE P t (reszT P t a) (some k) none none=some b∧Sl h b m (len - k) (cells.drop (k * m))∧CapU m b:=by
  have:=s.cut (P:=P) (lo:=some k) (hi:=none) hk (Nat.le_refl len) rfl rfl hu hz hm hc
  have e:(cells.drop (k * m)).take ((len - k) * m)=cells.drop (k * m):=List.take_of_length_le (by rw [List.length_drop,s.1,Nat.sub_mul];exact Nat.le_refl _)
  rwa [e] at this
end Go.Ev
end

section
namespace Go.Ev
section
variable {P:Program}
theorem xMy {h:H} (wf:Wf h) {L:List AO} {w k:Nat} {o:AO} {Q:AV→H→Prop} {id:Nat} {st:LoopState} {pend:Ev.J} {g n:Nat} {tm:Ev.M AV} {params:Array Tmp} {assign body:Code} {dd:Pos} {f:TF} {d:List Pos}
    (hk:L[k]? = some o) (ho:o = .loop st pend g n tm params assign body dd)
    (q : ∀ o',o'=AO.loop .done (.exit id) g n tm params assign body dd→Q (.bool false) (X h (L.set k o') (min (h.clock+k) w))):yldB (nx h k) Q (.exit id) f d (X h L w):=
  ⟨st,pend,g,n,tm,params,assign,body,dd,_,by rw [zPx wf,hk,ho],yRz L w k _ (zLv hk),q _ rfl⟩
def doneE (o:AO):Prop:=∃ g' n' tm' ps' sg' bd' dd',o = .loop .done (.exit 0) g' n' tm' ps' sg' bd' dd'
theorem zPv {h:H} {a:AV} {m len:Nat} {cells:List AV} (s:Sl h a m len cells):AV.cells a=[a]∧oneB a=true:=by
  obtain ⟨_,⟨rfl,_⟩|⟨id,off,cap,esz,o,cs,rfl,_⟩⟩:=s <;> exact ⟨rfl,rfl⟩
theorem copyE_any {h0:H} (wf:Wf h0) {t e ee:TypeId} {n len esz k w:Nat} {cap:Option Nat} {x:AV} {cs old:List AV} {l:List AO} (hu:P.underlying t=some (.slice e)) (hz:sizeE P e=some 1)
    (hs:srcCells (X h0 l w) 1 x=some (n,cs)) (hc:cs.length=n) (hk:l[k]? = some (.cells (zBz old) ee)) (ho:old.length=len) (h1 : ∀ m,allOne (cs.take m)=true) :
    ∃ w',min (h0.clock+k) w≤w'∧w'≤w∧copyE P t (.sl (nx h0 k) 0 len cap esz) x (X h0 l w) = .ok (.int .i64 ((min n len:Nat):Int)) (X h0 (l.set k (.cells (zBz (cs.take (min n len)++old.drop (min n len))) ee)) w'):=by
  unfold copyE
  rw [hu]
  dsimp only
  rw [hz]
  dsimp only
  rw [hs]
  dsimp only
  rw [zLw]
  have hb:(bif Nat.ble n len then n else len)=min n len:=by
    cases h:Nat.ble n len with
    | true=>have:=Nat.le_of_ble_eq_true h;simp;omega
    | false=>
      have : ¬ n≤len:=fun h2=>by rw [Nat.ble_eq_true_of_le h2] at h;cases h
      simp;omega
  rw [hb]
  by_cases hm:min n len=0
  · rw [hm,show Nat.beq 0 0=true from rfl]
    refine ⟨w,Nat.min_le_right _ _,Nat.le_refl _,?_⟩
    show RV.ok (.int .i64 0) (X h0 l w)=_
    rw [List.take_zero,List.drop_zero,List.nil_append]
    congr 2
    obtain ⟨hlt,e⟩:=List.getElem?_eq_some_iff.1 hk
    rw [← e,List.set_getElem_self]
  · rw [show Nat.beq (min n len) 0=false from by rw [beq_dec];exact decide_eq_false hm]
    refine ⟨min (h0.clock+k) w,Nat.le_refl _,Nat.min_le_right _ _,?_⟩
    rw [Nat.mul_one,writeCells_new wf hk (by rw [List.length_take];omega) (h1 _)]
    show RV.ok _ (X h0 (l.set k (.cells (zBz (splice old 0 (cs.take (min n len)))) ee)) _)=_
    have e:splice old 0 (cs.take (min n len))=cs.take (min n len)++old.drop (min n len):=by
      rw [xSz,List.take_zero,List.nil_append,Nat.zero_add,List.length_take,hc,Nat.min_eq_left (Nat.min_le_left _ _)]
    rw [e]
    rfl
end
end Go.Ev
end

section
namespace Go.Proofs.Ytmincoafjnnkpaa
open Go.Ev
set_option maxRecDepth 100000
set_option linter.unusedSimpArgs false
set_option linter.unusedVariables false
set_option maxHeartbeats 2000000
theorem tEvZ7 :type_of% (And.intro (And.intro (And.intro (And.intro (And.intro (And.intro (And.intro (@yQx) (@yQy)) (And.intro (@yQz) (@yPv))) (And.intro (And.intro (@yPw) (@yPx)) (And.intro (@ia_2) (And.intro (@ia_3) (@ia_4))))) (And.intro (And.intro (And.intro (@ia_5) (@yPy)) (And.intro (@yPz) (@yOv))) (And.intro (And.intro (@yOw) (@yOx)) (And.intro (@yOy) (And.intro (@zRv) (@yOz)))))) (And.intro (And.intro (And.intro (And.intro (@yNv) (@yNw)) (And.intro (@yNx) (@yNy))) (And.intro (And.intro (@yNz) (@yMv)) (And.intro (@yMw) (And.intro (@yMx) (@sz_2))))) (And.intro (And.intro (And.intro (@sz_3) (@sz_4)) (And.intro (@sz_5) (And.intro (@zQv) (@zYw)))) (And.intro (And.intro (@zYx) (@zYy)) (And.intro (@zYz) (And.intro (@zXv) (@zRx))))))) (And.intro (And.intro (And.intro (And.intro (And.intro (@zXw) (@zXx)) (And.intro (@zXy) (@zQx))) (And.intro (And.intro (@zXz) (@zWv)) (And.intro (@zWw) (And.intro (@zWx) (@zWy))))) (And.intro (And.intro (And.intro (@ze_2) (@ze_3)) (And.intro (@ze_4) (And.intro (@ze_5) (@zWz)))) (And.intro (And.intro (@zVv) (@zVw)) (And.intro (@zVx) (And.intro (@zVy) (@zVz)))))) (And.intro (And.intro (And.intro (And.intro (@zUv) (@zUw)) (And.intro (@zUx) (@zUy))) (And.intro (And.intro (@zUz) (@zTv)) (And.intro (@zTw) (And.intro (@zTx) (@zTy))))) (And.intro (And.intro (And.intro (@zOy) (@zOz)) (And.intro (@zNv) (And.intro (@zNw) (@zNx)))) (And.intro (And.intro (@zNy) (@zNz)) (And.intro (@zMv) (And.intro (@zMw) (@yMy)))))))) (And.intro (And.intro (And.intro (And.intro (And.intro (And.intro (@yMz) (@yLv)) (And.intro (@yLw) (@yLx))) (And.intro (And.intro (@yLy) (@yLz)) (And.intro (@yKv) (And.intro (@yKw) (@yKx))))) (And.intro (And.intro (And.intro (@yKy) (@yKz)) (And.intro (@yJv) (@yJw))) (And.intro (And.intro (@yJx) (@yJy)) (And.intro (@yJz) (And.intro (@yIv) (@yIw)))))) (And.intro (And.intro (And.intro (And.intro (@yIx) (@yIy)) (And.intro (@yIz) (@yHv))) (And.intro (And.intro (@yHw) (@yHx)) (And.intro (@yHy) (And.intro (@yHz) (@yGv))))) (And.intro (And.intro (And.intro (@yGw) (@yGx)) (And.intro (@yGy) (And.intro (@yGz) (@yFv)))) (And.intro (And.intro (@yFw) (@yFx)) (And.intro (@yFy) (And.intro (@yFz) (@yEv))))))) (And.intro (And.intro (And.intro (And.intro (And.intro (@yEw) (@yEx)) (And.intro (@yEy) (@yEz))) (And.intro (And.intro (@yDv) (@yDw)) (And.intro (@yDx) (And.intro (@yDy) (@yDz))))) (And.intro (And.intro (And.intro (@yCv) (@yCw)) (And.intro (@yCx) (And.intro (@yCy) (@yCz)))) (And.intro (And.intro (@zSz) (@yBv)) (And.intro (@yBw) (And.intro (@yBx) (@yBy)))))) (And.intro (And.intro (And.intro (And.intro (@yBz) (@yAv)) (And.intro (@yAw) (@yAx))) (And.intro (And.intro (@yAy) (@yAz)) (And.intro (@zZv) (And.intro (@zZw) (@zZx))))) (And.intro (And.intro (And.intro (@zZy) (@zZz)) (And.intro (@zQy) (And.intro (@zSv) (@zSw)))) (And.intro (And.intro (@zQw) (@zSx)) (And.intro (@zRy) (And.intro (@zSy) (@zRw))))))))):=And.intro (And.intro (And.intro (And.intro (And.intro (And.intro (And.intro (@yQx) (@yQy)) (And.intro (@yQz) (@yPv))) (And.intro (And.intro (@yPw) (@yPx)) (And.intro (@ia_2) (And.intro (@ia_3) (@ia_4))))) (And.intro (And.intro (And.intro (@ia_5) (@yPy)) (And.intro (@yPz) (@yOv))) (And.intro (And.intro (@yOw) (@yOx)) (And.intro (@yOy) (And.intro (@zRv) (@yOz)))))) (And.intro (And.intro (And.intro (And.intro (@yNv) (@yNw)) (And.intro (@yNx) (@yNy))) (And.intro (And.intro (@yNz) (@yMv)) (And.intro (@yMw) (And.intro (@yMx) (@sz_2))))) (And.intro (And.intro (And.intro (@sz_3) (@sz_4)) (And.intro (@sz_5) (And.intro (@zQv) (@zYw)))) (And.intro (And.intro (@zYx) (@zYy)) (And.intro (@zYz) (And.intro (@zXv) (@zRx))))))) (And.intro (And.intro (And.intro (And.intro (And.intro (@zXw) (@zXx)) (And.intro (@zXy) (@zQx))) (And.intro (And.intro (@zXz) (@zWv)) (And.intro (@zWw) (And.intro (@zWx) (@zWy))))) (And.intro (And.intro (And.intro (@ze_2) (@ze_3)) (And.intro (@ze_4) (And.intro (@ze_5) (@zWz)))) (And.intro (And.intro (@zVv) (@zVw)) (And.intro (@zVx) (And.intro (@zVy) (@zVz)))))) (And.intro (And.intro (And.intro (And.intro (@zUv) (@zUw)) (And.intro (@zUx) (@zUy))) (And.intro (And.intro (@zUz) (@zTv)) (And.intro (@zTw) (And.intro (@zTx) (@zTy))))) (And.intro (And.intro (And.intro (@zOy) (@zOz)) (And.intro (@zNv) (And.intro (@zNw) (@zNx)))) (And.intro (And.intro (@zNy) (@zNz)) (And.intro (@zMv) (And.intro (@zMw) (@yMy)))))))) (And.intro (And.intro (And.intro (And.intro (And.intro (And.intro (@yMz) (@yLv)) (And.intro (@yLw) (@yLx))) (And.intro (And.intro (@yLy) (@yLz)) (And.intro (@yKv) (And.intro (@yKw) (@yKx))))) (And.intro (And.intro (And.intro (@yKy) (@yKz)) (And.intro (@yJv) (@yJw))) (And.intro (And.intro (@yJx) (@yJy)) (And.intro (@yJz) (And.intro (@yIv) (@yIw)))))) (And.intro (And.intro (And.intro (And.intro (@yIx) (@yIy)) (And.intro (@yIz) (@yHv))) (And.intro (And.intro (@yHw) (@yHx)) (And.intro (@yHy) (And.intro (@yHz) (@yGv))))) (And.intro (And.intro (And.intro (@yGw) (@yGx)) (And.intro (@yGy) (And.intro (@yGz) (@yFv)))) (And.intro (And.intro (@yFw) (@yFx)) (And.intro (@yFy) (And.intro (@yFz) (@yEv))))))) (And.intro (And.intro (And.intro (And.intro (And.intro (@yEw) (@yEx)) (And.intro (@yEy) (@yEz))) (And.intro (And.intro (@yDv) (@yDw)) (And.intro (@yDx) (And.intro (@yDy) (@yDz))))) (And.intro (And.intro (And.intro (@yCv) (@yCw)) (And.intro (@yCx) (And.intro (@yCy) (@yCz)))) (And.intro (And.intro (@zSz) (@yBv)) (And.intro (@yBw) (And.intro (@yBx) (@yBy)))))) (And.intro (And.intro (And.intro (And.intro (@yBz) (@yAv)) (And.intro (@yAw) (@yAx))) (And.intro (And.intro (@yAy) (@yAz)) (And.intro (@zZv) (And.intro (@zZw) (@zZx))))) (And.intro (And.intro (And.intro (@zZy) (@zZz)) (And.intro (@zQy) (And.intro (@zSv) (@zSw)))) (And.intro (And.intro (@zQw) (@zSx)) (And.intro (@zRy) (And.intro (@zSy) (@zRw))))))))
def good (xs:List Int):Bool:=xs.all fun x=>x == 0 || x == 1
def errB (xs:List Int):Int:=if 128<xs.length then 6 else if good xs then 0 else 3
theorem checkBits (xs:List Int) (a:AV) (h:H) (wf:Wf h) (hs:Sl h a 1 xs.length (xs.map ii)):(om Try.prog KK).call (.fn 18 [a]) h = .ok (ii (errB xs)) h:=by
  have hl : ∀ h',lenE Try.prog 22 a h'=some (ii (xs.length:Int)):=fun h'=>hs.len yTx
  unfold errB
  refine ySx (zMy (fn:=Try.f18) Try.func18 rfl rfl rfl rfl rfl ?_)
  simp only [zKv]
  by_cases hb:128<xs.length
  · rw [if_pos hb]
    (repeat' (first
  | (with_reducible first|refine zJx ?_|refine zGw ?_|refine zFz ?_|refine zEv ?_|refine zFy ?_|refine zJw ?_|refine zGv ?_|refine zCz ?_|refine zDw ?_|refine zCy ?_|refine zCv ?_|refine zEx ?_|refine zDz ?_|refine zCx ?_|refine zBx ?_|refine zEz ?_|refine zEy ?_|refine zAw ?_|refine zBy ?_)
  | refine zDy ?_|refine zEw rfl ?_|refine zIv ?_|refine zJy ?_
  | ((first|refine zGx rfl rfl rfl rfl rfl fun K_ hK_=>?_|refine zGy rfl rfl rfl rfl rfl fun K_ hK_=>?_);simp only [zAz,zDx,zGz,↓reduceIte,reduceCtorEq,Nat.reduceEqDiff,Bool.not_true,Bool.not_false];refine hK_ _ ?_;clear hK_ K_)
  | refine zDv (by decide) ?_
  | ((try first|refine zKy rfl rfl rfl ?_|refine zIw rfl rfl ?_|refine zKx rfl rfl rfl ?_|refine zJz rfl rfl ?_);(refine zIx fun Q_ hQ_=>?_;simp (disch:=first|omega|(simp only [List.length_cons,List.length_nil,List.length_append];omega)) only [bb,bp,zKv,↓reduceIte,reduceCtorEq,Nat.reduceEqDiff,Nat.reduceLT,Nat.reduceLeDiff,Nat.reduceAdd,Nat.reduceMul,Nat.reduceSub,Nat.reduceBEq,Int.reduceToNat,cond_true,cond_false,eq_self,beq_self_eq_true,hl,zFx wf,zHx wf,zBv wf,zFw wf,zAy wf,zAx,tEvZ7,zIy,zIz,zHv,zHw,zAv wf];first|(refine zCw (Q:=Q_) (fun hp_=>?_) (fun hp_=>?_) <;> first|(exfalso;omega)|(refine hQ_ _ _ ?_;clear hQ_ Q_))|(refine zBw (Q:=Q_) (fun hp_=>?_) (fun hp_=>?_) <;> first|(exfalso;omega)|(refine hQ_ _ _ ?_;clear hQ_ Q_))|(refine hQ_ _ _ ?_;clear hQ_ Q_)))
  | (refine zHz fun K_ hK_=>?_;simp (disch:=omega) only [zFv,zAz,zHy,↓reduceIte,reduceCtorEq,Nat.reduceEqDiff,Nat.reduceLT];refine hK_ _ ?_;clear hK_ K_)))
    all_goals (refine zKw _ _ rfl (ret1 (by decide)) ?_;simp only [zAz,↓reduceIte,reduceCtorEq,Nat.reduceEqDiff];refine zLy rfl (by omega) ?_)
    all_goals exact ⟨rfl,rfl⟩
  · rw [if_neg hb]
    (repeat' (first
  | (with_reducible first|refine zJx ?_|refine zGw ?_|refine zFz ?_|refine zEv ?_|refine zFy ?_|refine zJw ?_|refine zGv ?_|refine zCz ?_|refine zDw ?_|refine zCy ?_|refine zCv ?_|refine zEx ?_|refine zDz ?_|refine zCx ?_|refine zBx ?_|refine zEz ?_|refine zEy ?_|refine zAw ?_|refine zBy ?_)
  | refine zDy ?_|refine zEw rfl ?_|refine zIv ?_|refine zJy ?_
  | ((first|refine zGx rfl rfl rfl rfl rfl fun K_ hK_=>?_|refine zGy rfl rfl rfl rfl rfl fun K_ hK_=>?_);simp only [zAz,zDx,zGz,↓reduceIte,reduceCtorEq,Nat.reduceEqDiff,Bool.not_true,Bool.not_false];refine hK_ _ ?_;clear hK_ K_)
  | refine zDv (by decide) ?_
  | ((try first|refine zKy rfl rfl rfl ?_|refine zIw rfl rfl ?_|refine zKx rfl rfl rfl ?_|refine zJz rfl rfl ?_);(refine zIx fun Q_ hQ_=>?_;simp (disch:=first|omega|(simp only [List.length_cons,List.length_nil,List.length_append];omega)) only [bb,bp,zKv,↓reduceIte,reduceCtorEq,Nat.reduceEqDiff,Nat.reduceLT,Nat.reduceLeDiff,Nat.reduceAdd,Nat.reduceMul,Nat.reduceSub,Nat.reduceBEq,Int.reduceToNat,cond_true,cond_false,eq_self,beq_self_eq_true,hl,zFx wf,zHx wf,zBv wf,zFw wf,zAy wf,zAx,tEvZ7,zIy,zIz,zHv,zHw,zAv wf];first|(refine zCw (Q:=Q_) (fun hp_=>?_) (fun hp_=>?_) <;> first|(exfalso;omega)|(refine hQ_ _ _ ?_;clear hQ_ Q_))|(refine zBw (Q:=Q_) (fun hp_=>?_) (fun hp_=>?_) <;> first|(exfalso;omega)|(refine hQ_ _ _ ?_;clear hQ_ Q_))|(refine hQ_ _ _ ?_;clear hQ_ Q_)))
  | (refine zHz fun K_ hK_=>?_;simp (disch:=omega) only [zFv,zAz,zHy,↓reduceIte,reduceCtorEq,Nat.reduceEqDiff,Nat.reduceLT];refine hK_ _ ?_;clear hK_ K_)))
    refine zOw (α:=Nat) (fun (i:Nat) f d h'=>i≤xs.length∧good (xs.take i)=true∧f 8=a∧f 9=ii (xs.length:Int)∧f 10=ii (i:Int)∧d=[]∧h'=X h [] h.clock) (fun i=>xs.length - i) ?_ (xs.length+1) 0 (by omega) ?_
    · rintro i f d h' ⟨hi,hg,g8,g9,g10,rfl,rfl⟩
      by_cases hlt:i<xs.length
      · obtain ⟨id,off,hix,hld⟩:=hs.at1 wf hlt zQy
        have hld : ∀ l w,load1 id off (X h l w)=some (ii xs[i]):=fun l w=>by
          rw [hld,List.getElem?_map,List.getElem?_eq_getElem hlt];rfl
        have e1:good (xs.take (i+1))=(good (xs.take i) && (xs[i] == 0 || xs[i] == 1)):=by
          rw [List.take_succ_eq_append_getElem hlt];unfold good;rw [List.all_append];simp
        have e2 : ¬ (xs[i]=0∨xs[i]=1)→good xs=false:=fun hne=>by
          cases hg:good xs with
          | false=>rfl
          | true=>
            exfalso;apply hne
            have:=List.all_eq_true.1 hg _ (List.getElem_mem hlt)
            simpa using this
        rw [hg,Bool.true_and] at e1
        generalize xs[i]=v at *
        (repeat' (first
  | (with_reducible first|refine zJx ?_|refine zGw ?_|refine zFz ?_|refine zEv ?_|refine zFy ?_|refine zJw ?_|refine zGv ?_|refine zCz ?_|refine zDw ?_|refine zCy ?_|refine zCv ?_|refine zEx ?_|refine zDz ?_|refine zCx ?_|refine zBx ?_|refine zEz ?_|refine zEy ?_|refine zAw ?_|refine zBy ?_)
  | refine zDy ?_|refine zEw rfl ?_|refine zIv ?_|refine zJy ?_
  | ((first|refine zGx rfl rfl rfl rfl rfl fun K_ hK_=>?_|refine zGy rfl rfl rfl rfl rfl fun K_ hK_=>?_);simp only [zAz,zDx,zGz,↓reduceIte,reduceCtorEq,Nat.reduceEqDiff,Bool.not_true,Bool.not_false];refine hK_ _ ?_;clear hK_ K_)
  | refine zDv (by decide) ?_
  | ((try first|refine zKy rfl rfl rfl ?_|refine zIw rfl rfl ?_|refine zKx rfl rfl rfl ?_|refine zJz rfl rfl ?_);(refine zIx fun Q_ hQ_=>?_;simp (disch:=first|omega|(simp only [List.length_cons,List.length_nil,List.length_append];omega)) only [bb,bp,zKv,↓reduceIte,reduceCtorEq,Nat.reduceEqDiff,Nat.reduceLT,Nat.reduceLeDiff,Nat.reduceAdd,Nat.reduceMul,Nat.reduceSub,Nat.reduceBEq,Int.reduceToNat,cond_true,cond_false,eq_self,beq_self_eq_true,hl,g8,g9,g10,hix,hld,zFx wf,zHx wf,zBv wf,zFw wf,zAy wf,zAx,tEvZ7,zIy,zIz,zHv,zHw,zAv wf];first|(refine zCw (Q:=Q_) (fun hp_=>?_) (fun hp_=>?_) <;> first|(exfalso;omega)|(refine hQ_ _ _ ?_;clear hQ_ Q_))|(refine zBw (Q:=Q_) (fun hp_=>?_) (fun hp_=>?_) <;> first|(exfalso;omega)|(refine hQ_ _ _ ?_;clear hQ_ Q_))|(refine hQ_ _ _ ?_;clear hQ_ Q_)))
  | (refine zHz fun K_ hK_=>?_;simp (disch:=omega) only [zFv,zAz,zHy,↓reduceIte,reduceCtorEq,Nat.reduceEqDiff,Nat.reduceLT];refine hK_ _ ?_;clear hK_ K_)))
        · refine zJv (i+1) (by omega) ⟨hlt,?_,by simp only [zAz,↓reduceIte,reduceCtorEq,Nat.reduceEqDiff];exact g8,by simp only [zAz,↓reduceIte,reduceCtorEq,Nat.reduceEqDiff];exact g9,by simp only [zAz,↓reduceIte,reduceCtorEq,Nat.reduceEqDiff];rfl,rfl,rfl⟩
          have:v=0:=by omega
          rw [e1,this];rfl
        · refine zJv (i+1) (by omega) ⟨hlt,?_,by simp only [zAz,↓reduceIte,reduceCtorEq,Nat.reduceEqDiff];exact g8,by simp only [zAz,↓reduceIte,reduceCtorEq,Nat.reduceEqDiff];exact g9,by simp only [zAz,↓reduceIte,reduceCtorEq,Nat.reduceEqDiff];rfl,rfl,rfl⟩
          have:v=1:=by omega
          rw [e1,this];rfl
        · rw [e2 (by omega)]
          (refine zKw _ _ rfl (ret1 (by decide)) ?_;simp only [zAz,↓reduceIte,reduceCtorEq,Nat.reduceEqDiff];refine zLy rfl (by omega) ?_)
          exact ⟨rfl,rfl⟩
      · have:i=xs.length:=by omega
        subst this
        rw [List.take_length] at hg
        rw [hg]
        (repeat' (first
  | (with_reducible first|refine zJx ?_|refine zGw ?_|refine zFz ?_|refine zEv ?_|refine zFy ?_|refine zJw ?_|refine zGv ?_|refine zCz ?_|refine zDw ?_|refine zCy ?_|refine zCv ?_|refine zEx ?_|refine zDz ?_|refine zCx ?_|refine zBx ?_|refine zEz ?_|refine zEy ?_|refine zAw ?_|refine zBy ?_)
  | refine zDy ?_|refine zEw rfl ?_|refine zIv ?_|refine zJy ?_
  | ((first|refine zGx rfl rfl rfl rfl rfl fun K_ hK_=>?_|refine zGy rfl rfl rfl rfl rfl fun K_ hK_=>?_);simp only [zAz,zDx,zGz,↓reduceIte,reduceCtorEq,Nat.reduceEqDiff,Bool.not_true,Bool.not_false];refine hK_ _ ?_;clear hK_ K_)
  | refine zDv (by decide) ?_
  | ((try first|refine zKy rfl rfl rfl ?_|refine zIw rfl rfl ?_|refine zKx rfl rfl rfl ?_|refine zJz rfl rfl ?_);(refine zIx fun Q_ hQ_=>?_;simp (disch:=first|omega|(simp only [List.length_cons,List.length_nil,List.length_append];omega)) only [bb,bp,zKv,↓reduceIte,reduceCtorEq,Nat.reduceEqDiff,Nat.reduceLT,Nat.reduceLeDiff,Nat.reduceAdd,Nat.reduceMul,Nat.reduceSub,Nat.reduceBEq,Int.reduceToNat,cond_true,cond_false,eq_self,beq_self_eq_true,hl,g8,g9,g10,zFx wf,zHx wf,zBv wf,zFw wf,zAy wf,zAx,tEvZ7,zIy,zIz,zHv,zHw,zAv wf];first|(refine zCw (Q:=Q_) (fun hp_=>?_) (fun hp_=>?_) <;> first|(exfalso;omega)|(refine hQ_ _ _ ?_;clear hQ_ Q_))|(refine zBw (Q:=Q_) (fun hp_=>?_) (fun hp_=>?_) <;> first|(exfalso;omega)|(refine hQ_ _ _ ?_;clear hQ_ Q_))|(refine hQ_ _ _ ?_;clear hQ_ Q_)))
  | (refine zHz fun K_ hK_=>?_;simp (disch:=omega) only [zFv,zAz,zHy,↓reduceIte,reduceCtorEq,Nat.reduceEqDiff,Nat.reduceLT];refine hK_ _ ?_;clear hK_ K_)))
        (refine zKw _ _ rfl (ret1 (by decide)) ?_;simp only [zAz,↓reduceIte,reduceCtorEq,Nat.reduceEqDiff];refine zLy rfl (by omega) ?_)
        exact ⟨rfl,rfl⟩
    · exact ⟨by omega,by rw [List.take_zero];rfl,rfl,rfl,rfl,rfl,rfl⟩
theorem xUw {xs:List Int} : errB xs=0 ↔ xs.length≤128∧good xs=true:=by
  unfold errB
  by_cases h:128<xs.length
  · rw [if_pos h];constructor
    · intro h;omega
    · intro h;omega
  · rw [if_neg h]
    cases good xs <;> simp <;> omega
def bitL (xs:List Int):List Bool:=xs.map fun x=>x == 1
theorem xBv {xs:List Int} (h:good xs=true):xs.map ii=(bitL xs).map bi:=by
  unfold bitL
  rw [List.map_map]
  refine List.map_congr_left fun x hx=>?_
  have:=List.all_eq_true.1 h x hx
  simp at this
  rcases this with rfl|rfl <;> rfl
theorem zLz (xs:List Int):(bitL xs).length=xs.length:=by unfold bitL;simp
def err2 (xs ys:List Int):Int:=if errB xs=0 then errB ys else errB xs
theorem checkBoth (xs ys:List Int) (a b:AV) (h:H) (wf:Wf h) (hs:Sl h a 1 xs.length (xs.map ii)) (ht:Sl h b 1 ys.length (ys.map ii)):(om Try.prog KK).call (.fn 46 [a,b]) h = .ok (ii (err2 xs ys)) h:=by
  have c1 : ∀ (l:List AO) (w:Nat),w≤h.clock+l.length→(om Try.prog KK).call (.fn 18 [a]) (X h l w) = .ok (ii (errB xs)) (X h l w):=fun l w hw=>checkBits xs a _ (wf.X hw) (hs.up wf l w)
  have c2 : ∀ (l:List AO) (w:Nat),w≤h.clock+l.length→(om Try.prog KK).call (.fn 18 [b]) (X h l w) = .ok (ii (errB ys)) (X h l w):=fun l w hw=>checkBits ys b _ (wf.X hw) (ht.up wf l w)
  unfold err2
  generalize errB xs=e1 at *
  generalize errB ys=e2 at *
  refine ySx (zMy (fn:=Try.f46) Try.func46 rfl rfl rfl rfl rfl ?_)
  simp only [zKv]
  (repeat' (first
  | (with_reducible first|refine zJx ?_|refine zGw ?_|refine zFz ?_|refine zEv ?_|refine zFy ?_|refine zJw ?_|refine zGv ?_|refine zCz ?_|refine zDw ?_|refine zCy ?_|refine zCv ?_|refine zEx ?_|refine zDz ?_|refine zCx ?_|refine zBx ?_|refine zEz ?_|refine zEy ?_|refine zAw ?_|refine zBy ?_)
  | refine zDy ?_|refine zEw rfl ?_|refine zIv ?_|refine zJy ?_
  | ((first|refine zGx rfl rfl rfl rfl rfl fun K_ hK_=>?_|refine zGy rfl rfl rfl rfl rfl fun K_ hK_=>?_);simp only [zAz,zDx,zGz,↓reduceIte,reduceCtorEq,Nat.reduceEqDiff,Bool.not_true,Bool.not_false];refine hK_ _ ?_;clear hK_ K_)
  | refine zDv (by decide) ?_
  | ((try first|refine zKy rfl rfl rfl ?_|refine zIw rfl rfl ?_|refine zKx rfl rfl rfl ?_|refine zJz rfl rfl ?_);(refine zIx fun Q_ hQ_=>?_;simp (disch:=first|omega|(simp only [List.length_cons,List.length_nil,List.length_append];omega)) only [bb,bp,zKv,↓reduceIte,reduceCtorEq,Nat.reduceEqDiff,Nat.reduceLT,Nat.reduceLeDiff,Nat.reduceAdd,Nat.reduceMul,Nat.reduceSub,Nat.reduceBEq,Int.reduceToNat,cond_true,cond_false,eq_self,beq_self_eq_true,zFx wf,zHx wf,zBv wf,zFw wf,zAy wf,zAx,tEvZ7,zIy,zIz,zHv,zHw,zAv wf];first|(refine zCw (Q:=Q_) (fun hp_=>?_) (fun hp_=>?_) <;> first|(exfalso;omega)|(refine hQ_ _ _ ?_;clear hQ_ Q_))|(refine zBw (Q:=Q_) (fun hp_=>?_) (fun hp_=>?_) <;> first|(exfalso;omega)|(refine hQ_ _ _ ?_;clear hQ_ Q_))|(refine hQ_ _ _ ?_;clear hQ_ Q_)|(refine zOv (c1 _ _ (by first|omega|(simp only [List.length_append,List.length_cons,List.length_nil];omega))) ?_;refine hQ_ _ _ ?_;clear hQ_ Q_)|(refine zOv (c2 _ _ (by first|omega|(simp only [List.length_append,List.length_cons,List.length_nil];omega))) ?_;refine hQ_ _ _ ?_;clear hQ_ Q_)))
  | (refine zHz fun K_ hK_=>?_;simp (disch:=omega) only [zFv,zAz,zHy,↓reduceIte,reduceCtorEq,Nat.reduceEqDiff,Nat.reduceLT];refine hK_ _ ?_;clear hK_ K_)))
  all_goals (refine zKw _ _ rfl (ret1 (by decide)) ?_;simp only [zAz,↓reduceIte,reduceCtorEq,Nat.reduceEqDiff];refine zLy rfl (by omega) ?_)
  all_goals exact ⟨by simp [*],rfl⟩
def err3 (xs ys:List Int):Int:=if err2 xs ys=0 then (if ys.length=xs.length then 0 else 15) else err2 xs ys
theorem checkStart (xs ys:List Int) (a b:AV) (h:H) (wf:Wf h) (hs:Sl h a 1 xs.length (xs.map ii)) (ht:Sl h b 1 ys.length (ys.map ii)):(om Try.prog KK).call (.fn 41 [a,b]) h = .ok (ii (err3 xs ys)) h:=by
  have hl : ∀ h',lenE Try.prog 22 a h'=some (ii (xs.length:Int)):=fun h'=>hs.len yTx
  have hl2 : ∀ h',lenE Try.prog 22 b h'=some (ii (ys.length:Int)):=fun h'=>ht.len yTx
  have c1 : ∀ (l:List AO) (w:Nat),w≤h.clock+l.length→(om Try.prog KK).call (.fn 46 [a,b]) (X h l w) = .ok (ii (err2 xs ys)) (X h l w):=fun l w hw=>checkBoth xs ys a b _ (wf.X hw) (hs.up wf l w) (ht.up wf l w)
  unfold err3
  generalize err2 xs ys=e1 at *
  refine ySx (zMy (fn:=Try.f41) Try.func41 rfl rfl rfl rfl rfl ?_)
  simp only [zKv]
  (repeat' (first
  | (with_reducible first|refine zJx ?_|refine zGw ?_|refine zFz ?_|refine zEv ?_|refine zFy ?_|refine zJw ?_|refine zGv ?_|refine zCz ?_|refine zDw ?_|refine zCy ?_|refine zCv ?_|refine zEx ?_|refine zDz ?_|refine zCx ?_|refine zBx ?_|refine zEz ?_|refine zEy ?_|refine zAw ?_|refine zBy ?_)
  | refine zDy ?_|refine zEw rfl ?_|refine zIv ?_|refine zJy ?_
  | ((first|refine zGx rfl rfl rfl rfl rfl fun K_ hK_=>?_|refine zGy rfl rfl rfl rfl rfl fun K_ hK_=>?_);simp only [zAz,zDx,zGz,↓reduceIte,reduceCtorEq,Nat.reduceEqDiff,Bool.not_true,Bool.not_false];refine hK_ _ ?_;clear hK_ K_)
  | refine zDv (by decide) ?_
  | ((try first|refine zKy rfl rfl rfl ?_|refine zIw rfl rfl ?_|refine zKx rfl rfl rfl ?_|refine zJz rfl rfl ?_);(refine zIx fun Q_ hQ_=>?_;simp (disch:=first|omega|(simp only [List.length_cons,List.length_nil,List.length_append];omega)) only [bb,bp,zKv,↓reduceIte,reduceCtorEq,Nat.reduceEqDiff,Nat.reduceLT,Nat.reduceLeDiff,Nat.reduceAdd,Nat.reduceMul,Nat.reduceSub,Nat.reduceBEq,Int.reduceToNat,cond_true,cond_false,eq_self,beq_self_eq_true,hl,hl2,zFx wf,zHx wf,zBv wf,zFw wf,zAy wf,zAx,tEvZ7,zIy,zIz,zHv,zHw,zAv wf];first|(refine zCw (Q:=Q_) (fun hp_=>?_) (fun hp_=>?_) <;> first|(exfalso;omega)|(refine hQ_ _ _ ?_;clear hQ_ Q_))|(refine zBw (Q:=Q_) (fun hp_=>?_) (fun hp_=>?_) <;> first|(exfalso;omega)|(refine hQ_ _ _ ?_;clear hQ_ Q_))|(refine hQ_ _ _ ?_;clear hQ_ Q_)|(refine zOv (c1 _ _ (by first|omega|(simp only [List.length_append,List.length_cons,List.length_nil];omega))) ?_;refine hQ_ _ _ ?_;clear hQ_ Q_)))
  | (refine zHz fun K_ hK_=>?_;simp (disch:=omega) only [zFv,zAz,zHy,↓reduceIte,reduceCtorEq,Nat.reduceEqDiff,Nat.reduceLT];refine hK_ _ ?_;clear hK_ K_)))
  all_goals (refine zKw _ _ rfl (ret1 (by decide)) ?_;simp only [zAz,↓reduceIte,reduceCtorEq,Nat.reduceEqDiff];refine zLy rfl (by omega) ?_)
  · exact ⟨by rw [if_pos (by omega),if_pos (by omega)],rfl⟩
  · exact ⟨by rw [if_pos (by omega),if_neg (by omega)],rfl⟩
  · exact ⟨by rw [if_neg (by omega)],rfl⟩
end Go.Proofs.Ytmincoafjnnkpaa
end

section
namespace Go.Proofs.Ytmincoafjnnkpaa
open Go.Ev
set_option maxRecDepth 100000
set_option linter.unusedSimpArgs false
set_option linter.unusedVariables false
set_option maxHeartbeats 2000000
theorem tEvZ8 :type_of% (And.intro (And.intro (And.intro (And.intro (And.intro (And.intro (And.intro (@yQx) (@yQy)) (And.intro (@yQz) (@yPv))) (And.intro (And.intro (@yPw) (@yPx)) (And.intro (@ia_2) (And.intro (@ia_3) (@ia_4))))) (And.intro (And.intro (And.intro (@ia_5) (@yPy)) (And.intro (@yPz) (@yOv))) (And.intro (And.intro (@yOw) (@yOx)) (And.intro (@yOy) (And.intro (@zRv) (@yOz)))))) (And.intro (And.intro (And.intro (And.intro (@yNv) (@yNw)) (And.intro (@yNx) (@yNy))) (And.intro (And.intro (@yNz) (@yMv)) (And.intro (@yMw) (And.intro (@yMx) (@sz_2))))) (And.intro (And.intro (And.intro (@sz_3) (@sz_4)) (And.intro (@sz_5) (And.intro (@zQv) (@zYw)))) (And.intro (And.intro (@zYx) (@zYy)) (And.intro (@zYz) (And.intro (@zXv) (@zRx))))))) (And.intro (And.intro (And.intro (And.intro (And.intro (@zXw) (@zXx)) (And.intro (@zXy) (@zQx))) (And.intro (And.intro (@zXz) (@zWv)) (And.intro (@zWw) (And.intro (@zWx) (@zWy))))) (And.intro (And.intro (And.intro (@ze_2) (@ze_3)) (And.intro (@ze_4) (And.intro (@ze_5) (@zWz)))) (And.intro (And.intro (@zVv) (@zVw)) (And.intro (@zVx) (And.intro (@zVy) (@zVz)))))) (And.intro (And.intro (And.intro (And.intro (@zUv) (@zUw)) (And.intro (@zUx) (@zUy))) (And.intro (And.intro (@zUz) (@zTv)) (And.intro (@zTw) (And.intro (@zTx) (@zTy))))) (And.intro (And.intro (And.intro (@zOy) (@zOz)) (And.intro (@zNv) (And.intro (@zNw) (@zNx)))) (And.intro (And.intro (@zNy) (@zNz)) (And.intro (@zMv) (And.intro (@zMw) (@yMy)))))))) (And.intro (And.intro (And.intro (And.intro (And.intro (And.intro (@yMz) (@yLv)) (And.intro (@yLw) (@yLx))) (And.intro (And.intro (@yLy) (@yLz)) (And.intro (@yKv) (And.intro (@yKw) (@yKx))))) (And.intro (And.intro (And.intro (@yKy) (@yKz)) (And.intro (@yJv) (@yJw))) (And.intro (And.intro (@yJx) (@yJy)) (And.intro (@yJz) (And.intro (@yIv) (@yIw)))))) (And.intro (And.intro (And.intro (And.intro (@yIx) (@yIy)) (And.intro (@yIz) (@yHv))) (And.intro (And.intro (@yHw) (@yHx)) (And.intro (@yHy) (And.intro (@yHz) (@yGv))))) (And.intro (And.intro (And.intro (@yGw) (@yGx)) (And.intro (@yGy) (And.intro (@yGz) (@yFv)))) (And.intro (And.intro (@yFw) (@yFx)) (And.intro (@yFy) (And.intro (@yFz) (@yEv))))))) (And.intro (And.intro (And.intro (And.intro (And.intro (@yEw) (@yEx)) (And.intro (@yEy) (@yEz))) (And.intro (And.intro (@yDv) (@yDw)) (And.intro (@yDx) (And.intro (@yDy) (@yDz))))) (And.intro (And.intro (And.intro (@yCv) (@yCw)) (And.intro (@yCx) (And.intro (@yCy) (@yCz)))) (And.intro (And.intro (@zSz) (@yBv)) (And.intro (@yBw) (And.intro (@yBx) (@yBy)))))) (And.intro (And.intro (And.intro (And.intro (@yBz) (@yAv)) (And.intro (@yAw) (@yAx))) (And.intro (And.intro (@yAy) (@yAz)) (And.intro (@zZv) (And.intro (@zZw) (@zZx))))) (And.intro (And.intro (And.intro (@zZy) (@zZz)) (And.intro (@zQy) (And.intro (@zSv) (@zSw)))) (And.intro (And.intro (@zQw) (@zSx)) (And.intro (@zRy) (And.intro (@zSy) (@zRw))))))))):=And.intro (And.intro (And.intro (And.intro (And.intro (And.intro (And.intro (@yQx) (@yQy)) (And.intro (@yQz) (@yPv))) (And.intro (And.intro (@yPw) (@yPx)) (And.intro (@ia_2) (And.intro (@ia_3) (@ia_4))))) (And.intro (And.intro (And.intro (@ia_5) (@yPy)) (And.intro (@yPz) (@yOv))) (And.intro (And.intro (@yOw) (@yOx)) (And.intro (@yOy) (And.intro (@zRv) (@yOz)))))) (And.intro (And.intro (And.intro (And.intro (@yNv) (@yNw)) (And.intro (@yNx) (@yNy))) (And.intro (And.intro (@yNz) (@yMv)) (And.intro (@yMw) (And.intro (@yMx) (@sz_2))))) (And.intro (And.intro (And.intro (@sz_3) (@sz_4)) (And.intro (@sz_5) (And.intro (@zQv) (@zYw)))) (And.intro (And.intro (@zYx) (@zYy)) (And.intro (@zYz) (And.intro (@zXv) (@zRx))))))) (And.intro (And.intro (And.intro (And.intro (And.intro (@zXw) (@zXx)) (And.intro (@zXy) (@zQx))) (And.intro (And.intro (@zXz) (@zWv)) (And.intro (@zWw) (And.intro (@zWx) (@zWy))))) (And.intro (And.intro (And.intro (@ze_2) (@ze_3)) (And.intro (@ze_4) (And.intro (@ze_5) (@zWz)))) (And.intro (And.intro (@zVv) (@zVw)) (And.intro (@zVx) (And.intro (@zVy) (@zVz)))))) (And.intro (And.intro (And.intro (And.intro (@zUv) (@zUw)) (And.intro (@zUx) (@zUy))) (And.intro (And.intro (@zUz) (@zTv)) (And.intro (@zTw) (And.intro (@zTx) (@zTy))))) (And.intro (And.intro (And.intro (@zOy) (@zOz)) (And.intro (@zNv) (And.intro (@zNw) (@zNx)))) (And.intro (And.intro (@zNy) (@zNz)) (And.intro (@zMv) (And.intro (@zMw) (@yMy)))))))) (And.intro (And.intro (And.intro (And.intro (And.intro (And.intro (@yMz) (@yLv)) (And.intro (@yLw) (@yLx))) (And.intro (And.intro (@yLy) (@yLz)) (And.intro (@yKv) (And.intro (@yKw) (@yKx))))) (And.intro (And.intro (And.intro (@yKy) (@yKz)) (And.intro (@yJv) (@yJw))) (And.intro (And.intro (@yJx) (@yJy)) (And.intro (@yJz) (And.intro (@yIv) (@yIw)))))) (And.intro (And.intro (And.intro (And.intro (@yIx) (@yIy)) (And.intro (@yIz) (@yHv))) (And.intro (And.intro (@yHw) (@yHx)) (And.intro (@yHy) (And.intro (@yHz) (@yGv))))) (And.intro (And.intro (And.intro (@yGw) (@yGx)) (And.intro (@yGy) (And.intro (@yGz) (@yFv)))) (And.intro (And.intro (@yFw) (@yFx)) (And.intro (@yFy) (And.intro (@yFz) (@yEv))))))) (And.intro (And.intro (And.intro (And.intro (And.intro (@yEw) (@yEx)) (And.intro (@yEy) (@yEz))) (And.intro (And.intro (@yDv) (@yDw)) (And.intro (@yDx) (And.intro (@yDy) (@yDz))))) (And.intro (And.intro (And.intro (@yCv) (@yCw)) (And.intro (@yCx) (And.intro (@yCy) (@yCz)))) (And.intro (And.intro (@zSz) (@yBv)) (And.intro (@yBw) (And.intro (@yBx) (@yBy)))))) (And.intro (And.intro (And.intro (And.intro (@yBz) (@yAv)) (And.intro (@yAw) (@yAx))) (And.intro (And.intro (@yAy) (@yAz)) (And.intro (@zZv) (And.intro (@zZw) (@zZx))))) (And.intro (And.intro (And.intro (@zZy) (@zZz)) (And.intro (@zQy) (And.intro (@zSv) (@zSw)))) (And.intro (And.intro (@zQw) (@zSx)) (And.intro (@zRy) (And.intro (@zSy) (@zRw))))))))
def WrongAt (T L:Nat) (s:Nat→Bool) (n r:Nat):Prop:=(n<L∧r=n)∨(L≤n∧L≤r∧r≤n∧Makes T L s r∧(r<n→s r≠pred T L s r))
abbrev sq (bs:List Bool):Nat→Bool:=fun i=>bs.getD i false
theorem bi_inj (a b:Bool):(((a.toNat:Nat):Int)=((b.toNat:Nat):Int)) ↔ a=b:=by cases a <;> cases b <;> simp
theorem wrong (T Ln:Nat) (hT:T<2 ^ 128) (hL:Ln≤128) (bs:List Bool) (hb:bs.length≤128) (a:AV) (hc:CapU 1 a) (h:H) (wf:Wf h) (hs:Sl h a 1 bs.length (bs.map bi)) :
    WV ((om Try.prog KK).call (.fn 47 [.agg (rg T Ln),a]) h) fun v h'=>∃ r,WrongAt T Ln (sq bs) bs.length r∧v=ii (r:Int)∧h'=h:=by
  have hl : ∀ h',lenE Try.prog 22 a h'=some (ii (bs.length:Int)):=fun h'=>hs.len yTx
  obtain ⟨f1,f2⟩:=zPv hs
  refine zMy (fn:=Try.f47) Try.func47 rfl rfl rfl rfl rfl ?_
  simp only [zKv]
  unfold rg
  by_cases hlt:bs.length<Ln
  · (repeat' (first
  | (with_reducible first|refine zJx ?_|refine zGw ?_|refine zFz ?_|refine zEv ?_|refine zFy ?_|refine zJw ?_|refine zGv ?_|refine zCz ?_|refine zDw ?_|refine zCy ?_|refine zCv ?_|refine zEx ?_|refine zDz ?_|refine zCx ?_|refine zBx ?_|refine zEz ?_|refine zEy ?_|refine zAw ?_|refine zBy ?_)
  | refine zDy ?_|refine zEw rfl ?_|refine zIv ?_|refine zJy ?_
  | ((first|refine zGx rfl rfl rfl rfl rfl fun K_ hK_=>?_|refine zGy rfl rfl rfl rfl rfl fun K_ hK_=>?_);simp only [zAz,zDx,zGz,↓reduceIte,reduceCtorEq,Nat.reduceEqDiff,Bool.not_true,Bool.not_false];refine hK_ _ ?_;clear hK_ K_)
  | refine zDv (by decide) ?_
  | ((try first|refine zKy rfl rfl rfl ?_|refine zIw rfl rfl ?_|refine zKx rfl rfl rfl ?_|refine zJz rfl rfl ?_);(refine zIx fun Q_ hQ_=>?_;simp (disch:=first|omega|(simp only [List.length_cons,List.length_nil,List.length_append];omega)) only [bb,bp,zKv,↓reduceIte,reduceCtorEq,Nat.reduceEqDiff,Nat.reduceLT,Nat.reduceLeDiff,Nat.reduceAdd,Nat.reduceMul,Nat.reduceSub,Nat.reduceBEq,Int.reduceToNat,cond_true,cond_false,eq_self,beq_self_eq_true,hl,f1,f2,zFx wf,zHx wf,zBv wf,zFw wf,zAy wf,zAx,tEvZ8,zIy,zIz,zHv,zHw,zAv wf];first|(refine zCw (Q:=Q_) (fun hp_=>?_) (fun hp_=>?_) <;> first|(exfalso;omega)|(refine hQ_ _ _ ?_;clear hQ_ Q_))|(refine zBw (Q:=Q_) (fun hp_=>?_) (fun hp_=>?_) <;> first|(exfalso;omega)|(refine hQ_ _ _ ?_;clear hQ_ Q_))|(refine hQ_ _ _ ?_;clear hQ_ Q_)))
  | (refine zHz fun K_ hK_=>?_;simp (disch:=omega) only [zFv,zAz,zHy,↓reduceIte,reduceCtorEq,Nat.reduceEqDiff,Nat.reduceLT];refine hK_ _ ?_;clear hK_ K_)))
    (refine zKw _ _ rfl (ret1 (by decide)) ?_;simp only [zAz,↓reduceIte,reduceCtorEq,Nat.reduceEqDiff];refine zLy rfl (by omega) ?_)
    exact ⟨bs.length,.inl ⟨hlt,rfl⟩,rfl,rfl⟩
  · obtain ⟨b,hcut,hsb,hcb⟩:=hs.cutTo (P:=Try.prog) (k:=Ln) (by omega) yTx sz_3 (by omega) hc
    rw [Nat.mul_one,← List.map_take] at hsb
    have hbl:(bs.take Ln).length=Ln:=by rw [List.length_take];omega
    have hsb':Sl h b 1 (bs.take Ln).length ((bs.take Ln).map bi):=by rw [hbl];exact hsb
    have fb:=zPv hsb
    obtain ⟨g1,g2⟩:=fb
    have c1 : ∀ (l:List AO) (w:Nat),w≤h.clock+l.length→(om Try.prog KK).call (.fn 43 [.agg [uu (T % 2 ^ 64),uu (T >>> 64),ii (Ln:Int)],b]) (X h l w) = .ok (.fn 67 [] [.ptr (nx h l.length) 0,.ptr (nx h (l.length+1)) 0]) (X h (l++[.cells (zBz (rg T Ln)) 59,.cells (zBz [b]) 22]) w):=fun l w hw=>run_ T Ln b ⟨g1,g2⟩ h wf l w hw
    (repeat' (first
  | (with_reducible first|refine zJx ?_|refine zGw ?_|refine zFz ?_|refine zEv ?_|refine zFy ?_|refine zJw ?_|refine zGv ?_|refine zCz ?_|refine zDw ?_|refine zCy ?_|refine zCv ?_|refine zEx ?_|refine zDz ?_|refine zCx ?_|refine zBx ?_|refine zEz ?_|refine zEy ?_|refine zAw ?_|refine zBy ?_)
  | refine zDy ?_|refine zEw rfl ?_|refine zIv ?_|refine zJy ?_
  | ((first|refine zGx rfl rfl rfl rfl rfl fun K_ hK_=>?_|refine zGy rfl rfl rfl rfl rfl fun K_ hK_=>?_);simp only [zAz,zDx,zGz,↓reduceIte,reduceCtorEq,Nat.reduceEqDiff,Bool.not_true,Bool.not_false];refine hK_ _ ?_;clear hK_ K_)
  | refine zDv (by decide) ?_
  | ((try first|refine zKy rfl rfl rfl ?_|refine zIw rfl rfl ?_|refine zKx rfl rfl rfl ?_|refine zJz rfl rfl ?_);(refine zIx fun Q_ hQ_=>?_;simp (disch:=first|omega|(simp only [List.length_cons,List.length_nil,List.length_append];omega)) only [bb,bp,zKv,↓reduceIte,reduceCtorEq,Nat.reduceEqDiff,Nat.reduceLT,Nat.reduceLeDiff,Nat.reduceAdd,Nat.reduceMul,Nat.reduceSub,Nat.reduceBEq,Int.reduceToNat,cond_true,cond_false,eq_self,beq_self_eq_true,hl,f1,f2,hcut,zFx wf,zHx wf,zBv wf,zFw wf,zAy wf,zAx,tEvZ8,zIy,zIz,zHv,zHw,zAv wf];first|(refine zCw (Q:=Q_) (fun hp_=>?_) (fun hp_=>?_) <;> first|(exfalso;omega)|(refine hQ_ _ _ ?_;clear hQ_ Q_))|(refine zBw (Q:=Q_) (fun hp_=>?_) (fun hp_=>?_) <;> first|(exfalso;omega)|(refine hQ_ _ _ ?_;clear hQ_ Q_))|(refine hQ_ _ _ ?_;clear hQ_ Q_)))
  | (refine zHz fun K_ hK_=>?_;simp (disch:=omega) only [zFv,zAz,zHy,↓reduceIte,reduceCtorEq,Nat.reduceEqDiff,Nat.reduceLT];refine hK_ _ ?_;clear hK_ K_)))
    refine zPy [.no,.no,.no,.no,.no,.full] (by kernel_rfl) ?_
    (repeat' (first
  | (with_reducible first|refine zJx ?_|refine zGw ?_|refine zFz ?_|refine zEv ?_|refine zFy ?_|refine zJw ?_|refine zGv ?_|refine zCz ?_|refine zDw ?_|refine zCy ?_|refine zCv ?_|refine zEx ?_|refine zDz ?_|refine zCx ?_|refine zBx ?_|refine zEz ?_|refine zEy ?_|refine zAw ?_|refine zBy ?_)
  | refine zDy ?_|refine zEw rfl ?_|refine zIv ?_|refine zJy ?_
  | ((first|refine zGx rfl rfl rfl rfl rfl fun K_ hK_=>?_|refine zGy rfl rfl rfl rfl rfl fun K_ hK_=>?_);simp only [zAz,zDx,zGz,↓reduceIte,reduceCtorEq,Nat.reduceEqDiff,Bool.not_true,Bool.not_false];refine hK_ _ ?_;clear hK_ K_)
  | refine zDv (by decide) ?_
  | ((try first|refine zKy rfl rfl rfl ?_|refine zIw rfl rfl ?_|refine zKx rfl rfl rfl ?_|refine zJz rfl rfl ?_);(refine zIx fun Q_ hQ_=>?_;simp (disch:=first|omega|(simp only [List.length_cons,List.length_nil,List.length_append];omega)) only [bb,bp,zKv,↓reduceIte,reduceCtorEq,Nat.reduceEqDiff,Nat.reduceLT,Nat.reduceLeDiff,Nat.reduceAdd,Nat.reduceMul,Nat.reduceSub,Nat.reduceBEq,Int.reduceToNat,cond_true,cond_false,eq_self,beq_self_eq_true,hl,f1,f2,hcut,c1,xRy,zFx wf,zHx wf,zBv wf,zFw wf,zAy wf,zAx,tEvZ8,zIy,zIz,zHv,zHw,zAv wf];first|(refine zCw (Q:=Q_) (fun hp_=>?_) (fun hp_=>?_) <;> first|(exfalso;omega)|(refine hQ_ _ _ ?_;clear hQ_ Q_))|(refine zBw (Q:=Q_) (fun hp_=>?_) (fun hp_=>?_) <;> first|(exfalso;omega)|(refine hQ_ _ _ ?_;clear hQ_ Q_))|(refine hQ_ _ _ ?_;clear hQ_ Q_)))
  | (refine zHz fun K_ hK_=>?_;simp (disch:=omega) only [zFv,zAz,zHy,↓reduceIte,reduceCtorEq,Nat.reduceEqDiff,Nat.reduceLT];refine hK_ _ ?_;clear hK_ K_)))
    refine WC_rangeX wf rfl (zFv (by decide)) fun o ho=>?_
    simp only [zAz,↓reduceIte,reduceCtorEq,Nat.reduceEqDiff,List.append_assoc,List.cons_append,List.nil_append,List.length_append,List.length_cons,List.length_nil,Nat.zero_add,Nat.reduceAdd,Nat.add_assoc]
    have hrun:=runS_is T Ln (sq bs)
    have hrun':IsRun T Ln (fun i=>(bs.take Ln).getD i false) (runS T Ln (sq bs)):=⟨fun i hi=>by
      rw [hrun.first i hi]
      simp only [List.getD_eq_getElem?_getD,List.getElem?_take,if_pos hi],hrun.then_⟩
    generalize hm:runS T Ln (sq bs)=m at *
    have P0:AO→AO→List AO:=fun c o=>[.cells (zBz [uu (T % 2 ^ 64),uu (T >>> 64),ii (Ln:Int)]) 59,.cells (zBz [a]) 22,c,.cells (zBz (rg T Ln)) 59,.cells (zBz [b]) 22,.dfr,o]
    refine WV.mono (runs T Ln hT hL (bs.take Ln) hbl m hrun' b wf hsb' ⟨g1,g2⟩ 3 4 (bs.length - Ln+1) (by omega) (nx h 6) _ _ ?_ ?_
      (fun q L=>Ln+q≤bs.length∧Makes T Ln (sq bs) (Ln+q)∧L=[.cells (zBz [uu (T % 2 ^ 64),uu (T >>> 64),ii (Ln:Int)]) 59,.cells (zBz [a]) 22,.cells (zBz [ii ((Ln+q:Nat):Int)]) 3,.cells (zBz (rg T Ln)) 59,.cells (zBz [b]) 22,.dfr,o])
      (fun L=>∃ r o2,WrongAt T Ln (sq bs) bs.length r∧doneE o2∧L=[.cells (zBz [uu (T % 2 ^ 64),uu (T >>> 64),ii (Ln:Int)]) 59,.cells (zBz [a]) 22,.cells (zBz [ii (r:Int)]) 3,.cells (zBz (rg T Ln)) 59,.cells (zBz [b]) 22,.dfr,o2]) ?_ ?_ ?_) ?_
    · exact Nat.le_trans (Nat.le_add_right _ 0) (Nat.add_le_add_left (Nat.zero_le _) _)
    · exact Nat.le_refl _
    · rintro q L ⟨_,_,rfl⟩
      exact ⟨rfl,rfl,rfl⟩
    · rintro q hq L J w ⟨hqn,hmk,rfl⟩ hw1 hw2
      have hw2':w≤h.clock+(7+J.length):=hw2
      simp only [List.cons_append,List.nil_append]
      have hix : ∀ i:Nat,i<bs.length → ∃ id off,indexAddrE Try.prog 22 a (.int .i64 (i:Int))=some (.ptr id off) ∧ ∀ l w,load1 id off (X h l w)=some (bi (sq bs i)):=fun i hi=>by
        obtain ⟨id,off,hix,hld⟩:=hs.at1 wf hi zQy
        exact ⟨id,off,hix,fun l w=>by rw [hld,List.getElem?_map,List.getElem?_eq_getElem hi];simp [sq,List.getD_eq_getElem?_getD,List.getElem?_eq_getElem hi]⟩
      refine WV_yldX wf (k:=6) rfl ho (setParams1 rfl) ?_
      (repeat' (first
  | (with_reducible first|refine zJx ?_|refine zGw ?_|refine zFz ?_|refine zEv ?_|refine zFy ?_|refine zJw ?_|refine zGv ?_|refine zCz ?_|refine zDw ?_|refine zCy ?_|refine zCv ?_|refine zEx ?_|refine zDz ?_|refine zCx ?_|refine zBx ?_|refine zEz ?_|refine zEy ?_|refine zAw ?_|refine zBy ?_)
  | refine zDy ?_|refine zEw rfl ?_|refine zIv ?_|refine zJy ?_
  | ((first|refine zGx rfl rfl rfl rfl rfl fun K_ hK_=>?_|refine zGy rfl rfl rfl rfl rfl fun K_ hK_=>?_);simp only [zAz,zDx,zGz,↓reduceIte,reduceCtorEq,Nat.reduceEqDiff,Bool.not_true,Bool.not_false];refine hK_ _ ?_;clear hK_ K_)
  | refine zDv (by decide) ?_
  | ((try first|refine zKy rfl rfl rfl ?_|refine zIw rfl rfl ?_|refine zKx rfl rfl rfl ?_|refine zJz rfl rfl ?_);(refine zIx fun Q_ hQ_=>?_;simp (disch:=first|omega|(simp only [List.length_cons,List.length_nil,List.length_append];omega)) only [bb,bp,zKv,↓reduceIte,reduceCtorEq,Nat.reduceEqDiff,Nat.reduceLT,Nat.reduceLeDiff,Nat.reduceAdd,Nat.reduceMul,Nat.reduceSub,Nat.reduceBEq,Int.reduceToNat,cond_true,cond_false,eq_self,beq_self_eq_true,zFx wf,zHx wf,zBv wf,zFw wf,zAy wf,zAx,tEvZ8,zIy,zIz,zHv,zHw,zAv wf];first|(refine zCw (Q:=Q_) (fun hp_=>?_) (fun hp_=>?_) <;> first|(exfalso;omega)|(refine hQ_ _ _ ?_;clear hQ_ Q_))|(refine zBw (Q:=Q_) (fun hp_=>?_) (fun hp_=>?_) <;> first|(exfalso;omega)|(refine hQ_ _ _ ?_;clear hQ_ Q_))|(refine hQ_ _ _ ?_;clear hQ_ Q_)))
  | (refine zHz fun K_ hK_=>?_;simp (disch:=omega) only [zFv,zAz,zHy,↓reduceIte,reduceCtorEq,Nat.reduceEqDiff,Nat.reduceLT];refine hK_ _ ?_;clear hK_ K_)))
      refine yldA_X wf (k:=6) rfl ho fun o' ho'=>?_
      simp only [List.set_cons_succ,List.set_cons_zero]
      by_cases he:Ln+q=bs.length
      · rw [he] at hmk ⊢
        (repeat' (first
  | (with_reducible first|refine zJx ?_|refine zGw ?_|refine zFz ?_|refine zEv ?_|refine zFy ?_|refine zJw ?_|refine zGv ?_|refine zCz ?_|refine zDw ?_|refine zCy ?_|refine zCv ?_|refine zEx ?_|refine zDz ?_|refine zCx ?_|refine zBx ?_|refine zEz ?_|refine zEy ?_|refine zAw ?_|refine zBy ?_)
  | refine zDy ?_|refine zEw rfl ?_|refine zIv ?_|refine zJy ?_
  | ((first|refine zGx rfl rfl rfl rfl rfl fun K_ hK_=>?_|refine zGy rfl rfl rfl rfl rfl fun K_ hK_=>?_);simp only [zAz,zDx,zGz,↓reduceIte,reduceCtorEq,Nat.reduceEqDiff,Bool.not_true,Bool.not_false];refine hK_ _ ?_;clear hK_ K_)
  | refine zDv (by decide) ?_
  | ((try first|refine zKy rfl rfl rfl ?_|refine zIw rfl rfl ?_|refine zKx rfl rfl rfl ?_|refine zJz rfl rfl ?_);(refine zIx fun Q_ hQ_=>?_;simp (disch:=first|omega|(simp only [List.length_cons,List.length_nil,List.length_append];omega)) only [bb,bp,zKv,↓reduceIte,reduceCtorEq,Nat.reduceEqDiff,Nat.reduceLT,Nat.reduceLeDiff,Nat.reduceAdd,Nat.reduceMul,Nat.reduceSub,Nat.reduceBEq,Int.reduceToNat,cond_true,cond_false,eq_self,beq_self_eq_true,hl,f1,f2,g1,g2,zFx wf,zHx wf,zBv wf,zFw wf,zAy wf,zAx,tEvZ8,zIy,zIz,zHv,zHw,zAv wf];first|(refine zCw (Q:=Q_) (fun hp_=>?_) (fun hp_=>?_) <;> first|(exfalso;omega)|(refine hQ_ _ _ ?_;clear hQ_ Q_))|(refine zBw (Q:=Q_) (fun hp_=>?_) (fun hp_=>?_) <;> first|(exfalso;omega)|(refine hQ_ _ _ ?_;clear hQ_ Q_))|(refine hQ_ _ _ ?_;clear hQ_ Q_)))
  | (refine zHz fun K_ hK_=>?_;simp (disch:=omega) only [zFv,zAz,zHy,↓reduceIte,reduceCtorEq,Nat.reduceEqDiff,Nat.reduceLT];refine hK_ _ ?_;clear hK_ K_)))
        refine xMy wf (k:=6) rfl ho' fun o2 ho2=>?_
        simp only [List.set_cons_succ,List.set_cons_zero]
        refine ⟨[.cells (zBz [uu (T % 2 ^ 64),uu (T >>> 64),ii (Ln:Int)]) 59,.cells (zBz [a]) 22,.cells (zBz [ii (bs.length:Int)]) 3,.cells (zBz (rg T Ln)) 59,.cells (zBz [b]) 22,.dfr,o2],[],_,by rw [List.append_nil];rfl,by omega,?_,.inr ⟨by first|rfl|trivial,rfl,bs.length,o2,.inr ⟨by omega,by omega,Nat.le_refl _,hmk,fun h=>absurd h (Nat.lt_irrefl _)⟩,⟨_,_,_,_,_,_,_,ho2⟩,rfl⟩⟩
        show _<h.clock+7
        omega
      · obtain ⟨id,off,hxa,hxl⟩:=hix (Ln+q) (by omega)
        have hmq:m (Ln+q)=pred T Ln (sq bs) (Ln+q):=by
          rw [hrun.then_ _ (by omega)]
          exact xJz (by omega) fun j hj=>hrun.agree hmk (Ln+q) j hj hj
        have hbe:=bi_inj (m (Ln+q)) (sq bs (Ln+q))
        have hqn' : ¬ ((Ln+q:Nat):Int)=(bs.length:Int):=by omega
        rw [hmq] at hbe ⊢
        have hwr : ¬ pred T Ln (sq bs) (Ln+q)=sq bs (Ln+q)→WrongAt T Ln (sq bs) bs.length (Ln+q):=fun hne=>.inr ⟨by omega,by omega,by omega,hmk,fun _ e=>hne e.symm⟩
        have hok:pred T Ln (sq bs) (Ln+q)=sq bs (Ln+q)→Makes T Ln (sq bs) (Ln+(q+1)):=fun he i h1 h2=>by
          by_cases e:i=Ln+q
          · rw [e];exact he.symm
          · exact hmk i h1 (by omega)
        generalize pred T Ln (sq bs) (Ln+q)=pb at *
        generalize sq bs (Ln+q)=sb at *
        have hdec : ∀ x y,binE Try.prog .neq 3 x y (bi pb) (bi sb)=some (.bool (!decide (pb=sb))):=fun x y=>by
          rw [b_neq,decide_eq_decide.2 hbe]
        have hplus:((Ln+q:Nat):Int)+1=((Ln+(q+1):Nat):Int):=by omega
        clear hbe
        by_cases hpe:pb=sb
        · have hd:(decide (pb=sb))=true:=decide_eq_true hpe
          have hk2:=hok hpe
          generalize bi pb=vp at *
          generalize bi sb=vs at *
          (repeat' (first
  | (with_reducible first|refine zJx ?_|refine zGw ?_|refine zFz ?_|refine zEv ?_|refine zFy ?_|refine zJw ?_|refine zGv ?_|refine zCz ?_|refine zDw ?_|refine zCy ?_|refine zCv ?_|refine zEx ?_|refine zDz ?_|refine zCx ?_|refine zBx ?_|refine zEz ?_|refine zEy ?_|refine zAw ?_|refine zBy ?_)
  | refine zDy ?_|refine zEw rfl ?_|refine zIv ?_|refine zJy ?_
  | ((first|refine zGx rfl rfl rfl rfl rfl fun K_ hK_=>?_|refine zGy rfl rfl rfl rfl rfl fun K_ hK_=>?_);simp only [zAz,zDx,zGz,↓reduceIte,reduceCtorEq,Nat.reduceEqDiff,Bool.not_true,Bool.not_false];refine hK_ _ ?_;clear hK_ K_)
  | refine zDv (by decide) ?_
  | ((try first|refine zKy rfl rfl rfl ?_|refine zIw rfl rfl ?_|refine zKx rfl rfl rfl ?_|refine zJz rfl rfl ?_);(refine zIx fun Q_ hQ_=>?_;simp (disch:=first|omega|(simp only [List.length_cons,List.length_nil,List.length_append];omega)) only [bb,bp,zKv,↓reduceIte,reduceCtorEq,Nat.reduceEqDiff,Nat.reduceLT,Nat.reduceLeDiff,Nat.reduceAdd,Nat.reduceMul,Nat.reduceSub,Nat.reduceBEq,Int.reduceToNat,cond_true,cond_false,eq_self,beq_self_eq_true,hl,f1,f2,g1,g2,hxa,hxl,hdec,hd,hplus,zFx wf,zHx wf,zBv wf,zFw wf,zAy wf,zAx,tEvZ8,zIy,zIz,zHv,zHw,zAv wf];first|(refine zCw (Q:=Q_) (fun hp_=>?_) (fun hp_=>?_) <;> first|(exfalso;omega)|(refine hQ_ _ _ ?_;clear hQ_ Q_))|(refine zBw (Q:=Q_) (fun hp_=>?_) (fun hp_=>?_) <;> first|(exfalso;omega)|(refine hQ_ _ _ ?_;clear hQ_ Q_))|(refine hQ_ _ _ ?_;clear hQ_ Q_)))
  | (refine zHz fun K_ hK_=>?_;simp (disch:=omega) only [zFv,zAz,zHy,↓reduceIte,reduceCtorEq,Nat.reduceEqDiff,Nat.reduceLT];refine hK_ _ ?_;clear hK_ K_)))
          refine yldB_X wf (k:=6) rfl ho' ?_
          simp only [List.set_cons_succ,List.set_cons_zero]
          rw [← ho]
          refine ⟨[.cells (zBz [uu (T % 2 ^ 64),uu (T >>> 64),ii (Ln:Int)]) 59,.cells (zBz [a]) 22,.cells (zBz [ii ((Ln+(q+1):Nat):Int)]) 3,.cells (zBz (rg T Ln)) 59,.cells (zBz [b]) 22,.dfr,o],[],_,by rw [List.append_nil];rfl,by omega,?_,.inl ⟨by first|rfl|trivial,by omega,by omega,hk2,rfl⟩⟩
          show _<h.clock+7
          omega
        · have hd:(decide (pb=sb))=false:=decide_eq_false hpe
          have hw:=hwr hpe
          generalize bi pb=vp at *
          generalize bi sb=vs at *
          (repeat' (first
  | (with_reducible first|refine zJx ?_|refine zGw ?_|refine zFz ?_|refine zEv ?_|refine zFy ?_|refine zJw ?_|refine zGv ?_|refine zCz ?_|refine zDw ?_|refine zCy ?_|refine zCv ?_|refine zEx ?_|refine zDz ?_|refine zCx ?_|refine zBx ?_|refine zEz ?_|refine zEy ?_|refine zAw ?_|refine zBy ?_)
  | refine zDy ?_|refine zEw rfl ?_|refine zIv ?_|refine zJy ?_
  | ((first|refine zGx rfl rfl rfl rfl rfl fun K_ hK_=>?_|refine zGy rfl rfl rfl rfl rfl fun K_ hK_=>?_);simp only [zAz,zDx,zGz,↓reduceIte,reduceCtorEq,Nat.reduceEqDiff,Bool.not_true,Bool.not_false];refine hK_ _ ?_;clear hK_ K_)
  | refine zDv (by decide) ?_
  | ((try first|refine zKy rfl rfl rfl ?_|refine zIw rfl rfl ?_|refine zKx rfl rfl rfl ?_|refine zJz rfl rfl ?_);(refine zIx fun Q_ hQ_=>?_;simp (disch:=first|omega|(simp only [List.length_cons,List.length_nil,List.length_append];omega)) only [bb,bp,zKv,↓reduceIte,reduceCtorEq,Nat.reduceEqDiff,Nat.reduceLT,Nat.reduceLeDiff,Nat.reduceAdd,Nat.reduceMul,Nat.reduceSub,Nat.reduceBEq,Int.reduceToNat,cond_true,cond_false,eq_self,beq_self_eq_true,hl,f1,f2,g1,g2,hxa,hxl,hdec,hd,hplus,zFx wf,zHx wf,zBv wf,zFw wf,zAy wf,zAx,tEvZ8,zIy,zIz,zHv,zHw,zAv wf];first|(refine zCw (Q:=Q_) (fun hp_=>?_) (fun hp_=>?_) <;> first|(exfalso;omega)|(refine hQ_ _ _ ?_;clear hQ_ Q_))|(refine zBw (Q:=Q_) (fun hp_=>?_) (fun hp_=>?_) <;> first|(exfalso;omega)|(refine hQ_ _ _ ?_;clear hQ_ Q_))|(refine hQ_ _ _ ?_;clear hQ_ Q_)))
  | (refine zHz fun K_ hK_=>?_;simp (disch:=omega) only [zFv,zAz,zHy,↓reduceIte,reduceCtorEq,Nat.reduceEqDiff,Nat.reduceLT];refine hK_ _ ?_;clear hK_ K_)))
          refine xMy wf (k:=6) rfl ho' fun o2 ho2=>?_
          simp only [List.set_cons_succ,List.set_cons_zero]
          refine ⟨[.cells (zBz [uu (T % 2 ^ 64),uu (T >>> 64),ii (Ln:Int)]) 59,.cells (zBz [a]) 22,.cells (zBz [ii ((Ln+q:Nat):Int)]) 3,.cells (zBz (rg T Ln)) 59,.cells (zBz [b]) 22,.dfr,o2],[],_,by rw [List.append_nil];rfl,by omega,?_,.inr ⟨by first|rfl|trivial,rfl,Ln+q,o2,hw,⟨_,_,_,_,_,_,_,ho2⟩,rfl⟩⟩
          show _<h.clock+7
          omega
    · exact ⟨by omega,fun i h1 h2=>absurd h2 (by omega),rfl⟩
    · rintro v h' ⟨L,J,w,rfl,hlo,hw,hl7,r,o2,hr,⟨g',n',tm',ps',sg',bd',dd',ho2⟩,rfl⟩
      simp only [List.cons_append,List.nil_append]
      refine rangeQ_X wf (k:=6) rfl ho2 (by decide) fun o' ho'=>?_
      simp only [List.set_cons_succ,List.set_cons_zero]
      (repeat' (first
  | (with_reducible first|refine zJx ?_|refine zGw ?_|refine zFz ?_|refine zEv ?_|refine zFy ?_|refine zJw ?_|refine zGv ?_|refine zCz ?_|refine zDw ?_|refine zCy ?_|refine zCv ?_|refine zEx ?_|refine zDz ?_|refine zCx ?_|refine zBx ?_|refine zEz ?_|refine zEy ?_|refine zAw ?_|refine zBy ?_)
  | refine zDy ?_|refine zEw rfl ?_|refine zIv ?_|refine zJy ?_
  | ((first|refine zGx rfl rfl rfl rfl rfl fun K_ hK_=>?_|refine zGy rfl rfl rfl rfl rfl fun K_ hK_=>?_);simp only [zAz,zDx,zGz,↓reduceIte,reduceCtorEq,Nat.reduceEqDiff,Bool.not_true,Bool.not_false];refine hK_ _ ?_;clear hK_ K_)
  | refine zDv (by decide) ?_
  | ((try first|refine zKy rfl rfl rfl ?_|refine zIw rfl rfl ?_|refine zKx rfl rfl rfl ?_|refine zJz rfl rfl ?_);(refine zIx fun Q_ hQ_=>?_;simp (disch:=first|omega|(simp only [List.length_cons,List.length_nil,List.length_append];omega)) only [bb,bp,zKv,↓reduceIte,reduceCtorEq,Nat.reduceEqDiff,Nat.reduceLT,Nat.reduceLeDiff,Nat.reduceAdd,Nat.reduceMul,Nat.reduceSub,Nat.reduceBEq,Int.reduceToNat,cond_true,cond_false,eq_self,beq_self_eq_true,zFx wf,zHx wf,zBv wf,zFw wf,zAy wf,zAx,tEvZ8,zIy,zIz,zHv,zHw,zAv wf];first|(refine zCw (Q:=Q_) (fun hp_=>?_) (fun hp_=>?_) <;> first|(exfalso;omega)|(refine hQ_ _ _ ?_;clear hQ_ Q_))|(refine zBw (Q:=Q_) (fun hp_=>?_) (fun hp_=>?_) <;> first|(exfalso;omega)|(refine hQ_ _ _ ?_;clear hQ_ Q_))|(refine hQ_ _ _ ?_;clear hQ_ Q_)))
  | (refine zHz fun K_ hK_=>?_;simp (disch:=omega) only [zFv,zAz,zHy,↓reduceIte,reduceCtorEq,Nat.reduceEqDiff,Nat.reduceLT];refine hK_ _ ?_;clear hK_ K_)))
      refine zKw _ _ (takeAll_X wf (k:=5) rfl) (ret1 (by decide)) ?_
      simp only [zAz,↓reduceIte,reduceCtorEq,Nat.reduceEqDiff]
      refine zLy rfl (by omega) ?_
      exact ⟨r,hr,rfl,rfl⟩
end Go.Proofs.Ytmincoafjnnkpaa
end

section
namespace Go.Proofs.Ytmincoafjnnkpaa
open Go.Ev
set_option maxRecDepth 100000
set_option linter.unusedSimpArgs false
set_option linter.unusedVariables false
set_option maxHeartbeats 2000000
theorem tEvZ9 :type_of% (And.intro (And.intro (And.intro (And.intro (And.intro (And.intro (And.intro (@yQx) (@yQy)) (And.intro (@yQz) (@yPv))) (And.intro (And.intro (@yPw) (@yPx)) (And.intro (@ia_2) (And.intro (@ia_3) (@ia_4))))) (And.intro (And.intro (And.intro (@ia_5) (@yPy)) (And.intro (@yPz) (@yOv))) (And.intro (And.intro (@yOw) (@yOx)) (And.intro (@yOy) (And.intro (@zRv) (@yOz)))))) (And.intro (And.intro (And.intro (And.intro (@yNv) (@yNw)) (And.intro (@yNx) (@yNy))) (And.intro (And.intro (@yNz) (@yMv)) (And.intro (@yMw) (And.intro (@yMx) (@sz_2))))) (And.intro (And.intro (And.intro (@sz_3) (@sz_4)) (And.intro (@sz_5) (And.intro (@zQv) (@zYw)))) (And.intro (And.intro (@zYx) (@zYy)) (And.intro (@zYz) (And.intro (@zXv) (@zRx))))))) (And.intro (And.intro (And.intro (And.intro (And.intro (@zXw) (@zXx)) (And.intro (@zXy) (@zQx))) (And.intro (And.intro (@zXz) (@zWv)) (And.intro (@zWw) (And.intro (@zWx) (@zWy))))) (And.intro (And.intro (And.intro (@ze_2) (@ze_3)) (And.intro (@ze_4) (And.intro (@ze_5) (@zWz)))) (And.intro (And.intro (@zVv) (@zVw)) (And.intro (@zVx) (And.intro (@zVy) (@zVz)))))) (And.intro (And.intro (And.intro (And.intro (@zUv) (@zUw)) (And.intro (@zUx) (@zUy))) (And.intro (And.intro (@zUz) (@zTv)) (And.intro (@zTw) (And.intro (@zTx) (@zTy))))) (And.intro (And.intro (And.intro (@zOy) (@zOz)) (And.intro (@zNv) (And.intro (@zNw) (@zNx)))) (And.intro (And.intro (@zNy) (@zNz)) (And.intro (@zMv) (And.intro (@zMw) (@yMy)))))))) (And.intro (And.intro (And.intro (And.intro (And.intro (And.intro (@yMz) (@yLv)) (And.intro (@yLw) (@yLx))) (And.intro (And.intro (@yLy) (@yLz)) (And.intro (@yKv) (And.intro (@yKw) (@yKx))))) (And.intro (And.intro (And.intro (@yKy) (@yKz)) (And.intro (@yJv) (@yJw))) (And.intro (And.intro (@yJx) (@yJy)) (And.intro (@yJz) (And.intro (@yIv) (@yIw)))))) (And.intro (And.intro (And.intro (And.intro (@yIx) (@yIy)) (And.intro (@yIz) (@yHv))) (And.intro (And.intro (@yHw) (@yHx)) (And.intro (@yHy) (And.intro (@yHz) (@yGv))))) (And.intro (And.intro (And.intro (@yGw) (@yGx)) (And.intro (@yGy) (And.intro (@yGz) (@yFv)))) (And.intro (And.intro (@yFw) (@yFx)) (And.intro (@yFy) (And.intro (@yFz) (@yEv))))))) (And.intro (And.intro (And.intro (And.intro (And.intro (@yEw) (@yEx)) (And.intro (@yEy) (@yEz))) (And.intro (And.intro (@yDv) (@yDw)) (And.intro (@yDx) (And.intro (@yDy) (@yDz))))) (And.intro (And.intro (And.intro (@yCv) (@yCw)) (And.intro (@yCx) (And.intro (@yCy) (@yCz)))) (And.intro (And.intro (@zSz) (@yBv)) (And.intro (@yBw) (And.intro (@yBx) (@yBy)))))) (And.intro (And.intro (And.intro (And.intro (@yBz) (@yAv)) (And.intro (@yAw) (@yAx))) (And.intro (And.intro (@yAy) (@yAz)) (And.intro (@zZv) (And.intro (@zZw) (@zZx))))) (And.intro (And.intro (And.intro (@zZy) (@zZz)) (And.intro (@zQy) (And.intro (@zSv) (@zSw)))) (And.intro (And.intro (@zQw) (@zSx)) (And.intro (@zRy) (And.intro (@zSy) (@zRw))))))))):=And.intro (And.intro (And.intro (And.intro (And.intro (And.intro (And.intro (@yQx) (@yQy)) (And.intro (@yQz) (@yPv))) (And.intro (And.intro (@yPw) (@yPx)) (And.intro (@ia_2) (And.intro (@ia_3) (@ia_4))))) (And.intro (And.intro (And.intro (@ia_5) (@yPy)) (And.intro (@yPz) (@yOv))) (And.intro (And.intro (@yOw) (@yOx)) (And.intro (@yOy) (And.intro (@zRv) (@yOz)))))) (And.intro (And.intro (And.intro (And.intro (@yNv) (@yNw)) (And.intro (@yNx) (@yNy))) (And.intro (And.intro (@yNz) (@yMv)) (And.intro (@yMw) (And.intro (@yMx) (@sz_2))))) (And.intro (And.intro (And.intro (@sz_3) (@sz_4)) (And.intro (@sz_5) (And.intro (@zQv) (@zYw)))) (And.intro (And.intro (@zYx) (@zYy)) (And.intro (@zYz) (And.intro (@zXv) (@zRx))))))) (And.intro (And.intro (And.intro (And.intro (And.intro (@zXw) (@zXx)) (And.intro (@zXy) (@zQx))) (And.intro (And.intro (@zXz) (@zWv)) (And.intro (@zWw) (And.intro (@zWx) (@zWy))))) (And.intro (And.intro (And.intro (@ze_2) (@ze_3)) (And.intro (@ze_4) (And.intro (@ze_5) (@zWz)))) (And.intro (And.intro (@zVv) (@zVw)) (And.intro (@zVx) (And.intro (@zVy) (@zVz)))))) (And.intro (And.intro (And.intro (And.intro (@zUv) (@zUw)) (And.intro (@zUx) (@zUy))) (And.intro (And.intro (@zUz) (@zTv)) (And.intro (@zTw) (And.intro (@zTx) (@zTy))))) (And.intro (And.intro (And.intro (@zOy) (@zOz)) (And.intro (@zNv) (And.intro (@zNw) (@zNx)))) (And.intro (And.intro (@zNy) (@zNz)) (And.intro (@zMv) (And.intro (@zMw) (@yMy)))))))) (And.intro (And.intro (And.intro (And.intro (And.intro (And.intro (@yMz) (@yLv)) (And.intro (@yLw) (@yLx))) (And.intro (And.intro (@yLy) (@yLz)) (And.intro (@yKv) (And.intro (@yKw) (@yKx))))) (And.intro (And.intro (And.intro (@yKy) (@yKz)) (And.intro (@yJv) (@yJw))) (And.intro (And.intro (@yJx) (@yJy)) (And.intro (@yJz) (And.intro (@yIv) (@yIw)))))) (And.intro (And.intro (And.intro (And.intro (@yIx) (@yIy)) (And.intro (@yIz) (@yHv))) (And.intro (And.intro (@yHw) (@yHx)) (And.intro (@yHy) (And.intro (@yHz) (@yGv))))) (And.intro (And.intro (And.intro (@yGw) (@yGx)) (And.intro (@yGy) (And.intro (@yGz) (@yFv)))) (And.intro (And.intro (@yFw) (@yFx)) (And.intro (@yFy) (And.intro (@yFz) (@yEv))))))) (And.intro (And.intro (And.intro (And.intro (And.intro (@yEw) (@yEx)) (And.intro (@yEy) (@yEz))) (And.intro (And.intro (@yDv) (@yDw)) (And.intro (@yDx) (And.intro (@yDy) (@yDz))))) (And.intro (And.intro (And.intro (@yCv) (@yCw)) (And.intro (@yCx) (And.intro (@yCy) (@yCz)))) (And.intro (And.intro (@zSz) (@yBv)) (And.intro (@yBw) (And.intro (@yBx) (@yBy)))))) (And.intro (And.intro (And.intro (And.intro (@yBz) (@yAv)) (And.intro (@yAw) (@yAx))) (And.intro (And.intro (@yAy) (@yAz)) (And.intro (@zZv) (And.intro (@zZw) (@zZx))))) (And.intro (And.intro (And.intro (@zZy) (@zZz)) (And.intro (@zQy) (And.intro (@zSv) (@zSw)))) (And.intro (And.intro (@zQw) (@zSx)) (And.intro (@zRy) (And.intro (@zSy) (@zRw))))))))
theorem rcheckBits (xs:List Int) (a:AV) (h:H) (wf:Wf h) (hs:Sl h a 1 xs.length (xs.map ii)):(om Try.prog KK).call (.fn 19 [a]) h = .ok (ii (errB xs)) h:=by
  have hl : ∀ h',lenE Try.prog 22 a h'=some (ii (xs.length:Int)):=fun h'=>hs.len yTx
  unfold errB
  refine ySx (zMy (fn:=Try.f19) Try.func19 rfl rfl rfl rfl rfl ?_)
  simp only [zKv]
  by_cases hb:128<xs.length
  · rw [if_pos hb]
    (repeat' (first
  | (with_reducible first|refine zJx ?_|refine zGw ?_|refine zFz ?_|refine zEv ?_|refine zFy ?_|refine zJw ?_|refine zGv ?_|refine zCz ?_|refine zDw ?_|refine zCy ?_|refine zCv ?_|refine zEx ?_|refine zDz ?_|refine zCx ?_|refine zBx ?_|refine zEz ?_|refine zEy ?_|refine zAw ?_|refine zBy ?_)
  | refine zDy ?_|refine zEw rfl ?_|refine zIv ?_|refine zJy ?_
  | ((first|refine zGx rfl rfl rfl rfl rfl fun K_ hK_=>?_|refine zGy rfl rfl rfl rfl rfl fun K_ hK_=>?_);simp only [zAz,zDx,zGz,↓reduceIte,reduceCtorEq,Nat.reduceEqDiff,Bool.not_true,Bool.not_false];refine hK_ _ ?_;clear hK_ K_)
  | refine zDv (by decide) ?_
  | ((try first|refine zKy rfl rfl rfl ?_|refine zIw rfl rfl ?_|refine zKx rfl rfl rfl ?_|refine zJz rfl rfl ?_);(refine zIx fun Q_ hQ_=>?_;simp (disch:=first|omega|(simp only [List.length_cons,List.length_nil,List.length_append];omega)) only [bb,bp,zKv,↓reduceIte,reduceCtorEq,Nat.reduceEqDiff,Nat.reduceLT,Nat.reduceLeDiff,Nat.reduceAdd,Nat.reduceMul,Nat.reduceSub,Nat.reduceBEq,Int.reduceToNat,cond_true,cond_false,eq_self,beq_self_eq_true,hl,zFx wf,zHx wf,zBv wf,zFw wf,zAy wf,zAx,tEvZ9,zIy,zIz,zHv,zHw,zAv wf];first|(refine zCw (Q:=Q_) (fun hp_=>?_) (fun hp_=>?_) <;> first|(exfalso;omega)|(refine hQ_ _ _ ?_;clear hQ_ Q_))|(refine zBw (Q:=Q_) (fun hp_=>?_) (fun hp_=>?_) <;> first|(exfalso;omega)|(refine hQ_ _ _ ?_;clear hQ_ Q_))|(refine hQ_ _ _ ?_;clear hQ_ Q_)))
  | (refine zHz fun K_ hK_=>?_;simp (disch:=omega) only [zFv,zAz,zHy,↓reduceIte,reduceCtorEq,Nat.reduceEqDiff,Nat.reduceLT];refine hK_ _ ?_;clear hK_ K_)))
    all_goals (refine zKw _ _ rfl (ret1 (by decide)) ?_;simp only [zAz,↓reduceIte,reduceCtorEq,Nat.reduceEqDiff];refine zLy rfl (by omega) ?_)
    all_goals exact ⟨rfl,rfl⟩
  · rw [if_neg hb]
    (repeat' (first
  | (with_reducible first|refine zJx ?_|refine zGw ?_|refine zFz ?_|refine zEv ?_|refine zFy ?_|refine zJw ?_|refine zGv ?_|refine zCz ?_|refine zDw ?_|refine zCy ?_|refine zCv ?_|refine zEx ?_|refine zDz ?_|refine zCx ?_|refine zBx ?_|refine zEz ?_|refine zEy ?_|refine zAw ?_|refine zBy ?_)
  | refine zDy ?_|refine zEw rfl ?_|refine zIv ?_|refine zJy ?_
  | ((first|refine zGx rfl rfl rfl rfl rfl fun K_ hK_=>?_|refine zGy rfl rfl rfl rfl rfl fun K_ hK_=>?_);simp only [zAz,zDx,zGz,↓reduceIte,reduceCtorEq,Nat.reduceEqDiff,Bool.not_true,Bool.not_false];refine hK_ _ ?_;clear hK_ K_)
  | refine zDv (by decide) ?_
  | ((try first|refine zKy rfl rfl rfl ?_|refine zIw rfl rfl ?_|refine zKx rfl rfl rfl ?_|refine zJz rfl rfl ?_);(refine zIx fun Q_ hQ_=>?_;simp (disch:=first|omega|(simp only [List.length_cons,List.length_nil,List.length_append];omega)) only [bb,bp,zKv,↓reduceIte,reduceCtorEq,Nat.reduceEqDiff,Nat.reduceLT,Nat.reduceLeDiff,Nat.reduceAdd,Nat.reduceMul,Nat.reduceSub,Nat.reduceBEq,Int.reduceToNat,cond_true,cond_false,eq_self,beq_self_eq_true,hl,zFx wf,zHx wf,zBv wf,zFw wf,zAy wf,zAx,tEvZ9,zIy,zIz,zHv,zHw,zAv wf];first|(refine zCw (Q:=Q_) (fun hp_=>?_) (fun hp_=>?_) <;> first|(exfalso;omega)|(refine hQ_ _ _ ?_;clear hQ_ Q_))|(refine zBw (Q:=Q_) (fun hp_=>?_) (fun hp_=>?_) <;> first|(exfalso;omega)|(refine hQ_ _ _ ?_;clear hQ_ Q_))|(refine hQ_ _ _ ?_;clear hQ_ Q_)))
  | (refine zHz fun K_ hK_=>?_;simp (disch:=omega) only [zFv,zAz,zHy,↓reduceIte,reduceCtorEq,Nat.reduceEqDiff,Nat.reduceLT];refine hK_ _ ?_;clear hK_ K_)))
    refine zOw (α:=Nat) (fun (i:Nat) f d h'=>i≤xs.length∧good (xs.take i)=true∧f 0=a∧f 3=ii (i:Int)∧d=[]∧h'=X h [] h.clock) (fun i=>xs.length - i) ?_ (xs.length+1) 0 (by omega) ?_
    · rintro i f d h' ⟨hi,hg,g0,g3,rfl,rfl⟩
      by_cases hlt:i<xs.length
      · obtain ⟨id,off,hix,hld⟩:=hs.at1 wf hlt zQy
        have hld : ∀ l w,load1 id off (X h l w)=some (ii xs[i]):=fun l w=>by
          rw [hld,List.getElem?_map,List.getElem?_eq_getElem hlt];rfl
        have e1:good (xs.take (i+1))=(good (xs.take i) && (xs[i] == 0 || xs[i] == 1)):=by
          rw [List.take_succ_eq_append_getElem hlt];unfold good;rw [List.all_append];simp
        have e2 : ¬ (xs[i]=0∨xs[i]=1)→good xs=false:=fun hne=>by
          cases hg:good xs with
          | false=>rfl
          | true=>
            exfalso;apply hne
            have:=List.all_eq_true.1 hg _ (List.getElem_mem hlt)
            simpa using this
        rw [hg,Bool.true_and] at e1
        generalize xs[i]=v at *
        (repeat' (first
  | (with_reducible first|refine zJx ?_|refine zGw ?_|refine zFz ?_|refine zEv ?_|refine zFy ?_|refine zJw ?_|refine zGv ?_|refine zCz ?_|refine zDw ?_|refine zCy ?_|refine zCv ?_|refine zEx ?_|refine zDz ?_|refine zCx ?_|refine zBx ?_|refine zEz ?_|refine zEy ?_|refine zAw ?_|refine zBy ?_)
  | refine zDy ?_|refine zEw rfl ?_|refine zIv ?_|refine zJy ?_
  | ((first|refine zGx rfl rfl rfl rfl rfl fun K_ hK_=>?_|refine zGy rfl rfl rfl rfl rfl fun K_ hK_=>?_);simp only [zAz,zDx,zGz,↓reduceIte,reduceCtorEq,Nat.reduceEqDiff,Bool.not_true,Bool.not_false];refine hK_ _ ?_;clear hK_ K_)
  | refine zDv (by decide) ?_
  | ((try first|refine zKy rfl rfl rfl ?_|refine zIw rfl rfl ?_|refine zKx rfl rfl rfl ?_|refine zJz rfl rfl ?_);(refine zIx fun Q_ hQ_=>?_;simp (disch:=first|omega|(simp only [List.length_cons,List.length_nil,List.length_append];omega)) only [bb,bp,zKv,↓reduceIte,reduceCtorEq,Nat.reduceEqDiff,Nat.reduceLT,Nat.reduceLeDiff,Nat.reduceAdd,Nat.reduceMul,Nat.reduceSub,Nat.reduceBEq,Int.reduceToNat,cond_true,cond_false,eq_self,beq_self_eq_true,hl,g0,g3,hix,hld,zFx wf,zHx wf,zBv wf,zFw wf,zAy wf,zAx,tEvZ9,zIy,zIz,zHv,zHw,zAv wf];first|(refine zCw (Q:=Q_) (fun hp_=>?_) (fun hp_=>?_) <;> first|(exfalso;omega)|(refine hQ_ _ _ ?_;clear hQ_ Q_))|(refine zBw (Q:=Q_) (fun hp_=>?_) (fun hp_=>?_) <;> first|(exfalso;omega)|(refine hQ_ _ _ ?_;clear hQ_ Q_))|(refine hQ_ _ _ ?_;clear hQ_ Q_)))
  | (refine zHz fun K_ hK_=>?_;simp (disch:=omega) only [zFv,zAz,zHy,↓reduceIte,reduceCtorEq,Nat.reduceEqDiff,Nat.reduceLT];refine hK_ _ ?_;clear hK_ K_)))
        · refine zJv (i+1) (by omega) ⟨hlt,?_,by simp only [zAz,↓reduceIte,reduceCtorEq,Nat.reduceEqDiff];exact g0,by simp only [zAz,↓reduceIte,reduceCtorEq,Nat.reduceEqDiff];rfl,rfl,rfl⟩
          have:v=0:=by omega
          rw [e1,this];rfl
        · refine zJv (i+1) (by omega) ⟨hlt,?_,by simp only [zAz,↓reduceIte,reduceCtorEq,Nat.reduceEqDiff];exact g0,by simp only [zAz,↓reduceIte,reduceCtorEq,Nat.reduceEqDiff];rfl,rfl,rfl⟩
          have:v=1:=by omega
          rw [e1,this];rfl
        · rw [e2 (by omega)]
          (refine zKw _ _ rfl (ret1 (by decide)) ?_;simp only [zAz,↓reduceIte,reduceCtorEq,Nat.reduceEqDiff];refine zLy rfl (by omega) ?_)
          exact ⟨rfl,rfl⟩
      · have:i=xs.length:=by omega
        subst this
        rw [List.take_length] at hg
        rw [hg]
        (repeat' (first
  | (with_reducible first|refine zJx ?_|refine zGw ?_|refine zFz ?_|refine zEv ?_|refine zFy ?_|refine zJw ?_|refine zGv ?_|refine zCz ?_|refine zDw ?_|refine zCy ?_|refine zCv ?_|refine zEx ?_|refine zDz ?_|refine zCx ?_|refine zBx ?_|refine zEz ?_|refine zEy ?_|refine zAw ?_|refine zBy ?_)
  | refine zDy ?_|refine zEw rfl ?_|refine zIv ?_|refine zJy ?_
  | ((first|refine zGx rfl rfl rfl rfl rfl fun K_ hK_=>?_|refine zGy rfl rfl rfl rfl rfl fun K_ hK_=>?_);simp only [zAz,zDx,zGz,↓reduceIte,reduceCtorEq,Nat.reduceEqDiff,Bool.not_true,Bool.not_false];refine hK_ _ ?_;clear hK_ K_)
  | refine zDv (by decide) ?_
  | ((try first|refine zKy rfl rfl rfl ?_|refine zIw rfl rfl ?_|refine zKx rfl rfl rfl ?_|refine zJz rfl rfl ?_);(refine zIx fun Q_ hQ_=>?_;simp (disch:=first|omega|(simp only [List.length_cons,List.length_nil,List.length_append];omega)) only [bb,bp,zKv,↓reduceIte,reduceCtorEq,Nat.reduceEqDiff,Nat.reduceLT,Nat.reduceLeDiff,Nat.reduceAdd,Nat.reduceMul,Nat.reduceSub,Nat.reduceBEq,Int.reduceToNat,cond_true,cond_false,eq_self,beq_self_eq_true,hl,g0,g3,zFx wf,zHx wf,zBv wf,zFw wf,zAy wf,zAx,tEvZ9,zIy,zIz,zHv,zHw,zAv wf];first|(refine zCw (Q:=Q_) (fun hp_=>?_) (fun hp_=>?_) <;> first|(exfalso;omega)|(refine hQ_ _ _ ?_;clear hQ_ Q_))|(refine zBw (Q:=Q_) (fun hp_=>?_) (fun hp_=>?_) <;> first|(exfalso;omega)|(refine hQ_ _ _ ?_;clear hQ_ Q_))|(refine hQ_ _ _ ?_;clear hQ_ Q_)))
  | (refine zHz fun K_ hK_=>?_;simp (disch:=omega) only [zFv,zAz,zHy,↓reduceIte,reduceCtorEq,Nat.reduceEqDiff,Nat.reduceLT];refine hK_ _ ?_;clear hK_ K_)))
        (refine zKw _ _ rfl (ret1 (by decide)) ?_;simp only [zAz,↓reduceIte,reduceCtorEq,Nat.reduceEqDiff];refine zLy rfl (by omega) ?_)
        exact ⟨rfl,rfl⟩
    · exact ⟨by omega,by rw [List.take_zero];rfl,rfl,rfl,rfl,rfl⟩
theorem bget {bs:List Bool} {h:H} (wf:Wf h) {a:AV} (hs:Sl h a 1 bs.length (bs.map bi)) {i:Nat} (hi:i<bs.length) : ∃ id off,indexAddrE Try.prog 22 a (.int .i64 (i:Int))=some (.ptr id off) ∧ ∀ l w,load1 id off (X h l w)=some (bi (sq bs i)):=by
  obtain ⟨id,off,hix,hld⟩:=hs.at1 wf hi zQy
  exact ⟨id,off,hix,fun l w=>by rw [hld,List.getElem?_map,List.getElem?_eq_getElem hi];simp [sq,List.getD_eq_getElem?_getD,List.getElem?_eq_getElem hi]⟩
def makesB (T L:Nat) (s:Nat→Bool) (n:Nat):Bool:=(List.range n).all fun i=>decide (i<L) || (s i == pred T L s i)
end Go.Proofs.Ytmincoafjnnkpaa
end

section
namespace Go.Proofs.Ytmincoafjnnkpaa
open Go.Ev
set_option maxRecDepth 100000
set_option linter.unusedSimpArgs false
set_option linter.unusedVariables false
set_option maxHeartbeats 2000000
theorem tEvZ10 :type_of% (And.intro (And.intro (And.intro (And.intro (And.intro (And.intro (And.intro (@yQx) (@yQy)) (And.intro (@yQz) (@yPv))) (And.intro (And.intro (@yPw) (@yPx)) (And.intro (@ia_2) (And.intro (@ia_3) (@ia_4))))) (And.intro (And.intro (And.intro (@ia_5) (@yPy)) (And.intro (@yPz) (@yOv))) (And.intro (And.intro (@yOw) (@yOx)) (And.intro (@yOy) (And.intro (@zRv) (@yOz)))))) (And.intro (And.intro (And.intro (And.intro (@yNv) (@yNw)) (And.intro (@yNx) (@yNy))) (And.intro (And.intro (@yNz) (@yMv)) (And.intro (@yMw) (And.intro (@yMx) (@sz_2))))) (And.intro (And.intro (And.intro (@sz_3) (@sz_4)) (And.intro (@sz_5) (And.intro (@zQv) (@zYw)))) (And.intro (And.intro (@zYx) (@zYy)) (And.intro (@zYz) (And.intro (@zXv) (@zRx))))))) (And.intro (And.intro (And.intro (And.intro (And.intro (@zXw) (@zXx)) (And.intro (@zXy) (@zQx))) (And.intro (And.intro (@zXz) (@zWv)) (And.intro (@zWw) (And.intro (@zWx) (@zWy))))) (And.intro (And.intro (And.intro (@ze_2) (@ze_3)) (And.intro (@ze_4) (And.intro (@ze_5) (@zWz)))) (And.intro (And.intro (@zVv) (@zVw)) (And.intro (@zVx) (And.intro (@zVy) (@zVz)))))) (And.intro (And.intro (And.intro (And.intro (@zUv) (@zUw)) (And.intro (@zUx) (@zUy))) (And.intro (And.intro (@zUz) (@zTv)) (And.intro (@zTw) (And.intro (@zTx) (@zTy))))) (And.intro (And.intro (And.intro (@zOy) (@zOz)) (And.intro (@zNv) (And.intro (@zNw) (@zNx)))) (And.intro (And.intro (@zNy) (@zNz)) (And.intro (@zMv) (And.intro (@zMw) (@yMy)))))))) (And.intro (And.intro (And.intro (And.intro (And.intro (And.intro (@yMz) (@yLv)) (And.intro (@yLw) (@yLx))) (And.intro (And.intro (@yLy) (@yLz)) (And.intro (@yKv) (And.intro (@yKw) (@yKx))))) (And.intro (And.intro (And.intro (@yKy) (@yKz)) (And.intro (@yJv) (@yJw))) (And.intro (And.intro (@yJx) (@yJy)) (And.intro (@yJz) (And.intro (@yIv) (@yIw)))))) (And.intro (And.intro (And.intro (And.intro (@yIx) (@yIy)) (And.intro (@yIz) (@yHv))) (And.intro (And.intro (@yHw) (@yHx)) (And.intro (@yHy) (And.intro (@yHz) (@yGv))))) (And.intro (And.intro (And.intro (@yGw) (@yGx)) (And.intro (@yGy) (And.intro (@yGz) (@yFv)))) (And.intro (And.intro (@yFw) (@yFx)) (And.intro (@yFy) (And.intro (@yFz) (@yEv))))))) (And.intro (And.intro (And.intro (And.intro (And.intro (@yEw) (@yEx)) (And.intro (@yEy) (@yEz))) (And.intro (And.intro (@yDv) (@yDw)) (And.intro (@yDx) (And.intro (@yDy) (@yDz))))) (And.intro (And.intro (And.intro (@yCv) (@yCw)) (And.intro (@yCx) (And.intro (@yCy) (@yCz)))) (And.intro (And.intro (@zSz) (@yBv)) (And.intro (@yBw) (And.intro (@yBx) (@yBy)))))) (And.intro (And.intro (And.intro (And.intro (@yBz) (@yAv)) (And.intro (@yAw) (@yAx))) (And.intro (And.intro (@yAy) (@yAz)) (And.intro (@zZv) (And.intro (@zZw) (@zZx))))) (And.intro (And.intro (And.intro (@zZy) (@zZz)) (And.intro (@zQy) (And.intro (@zSv) (@zSw)))) (And.intro (And.intro (@zQw) (@zSx)) (And.intro (@zRy) (And.intro (@zSy) (@zRw))))))))):=And.intro (And.intro (And.intro (And.intro (And.intro (And.intro (And.intro (@yQx) (@yQy)) (And.intro (@yQz) (@yPv))) (And.intro (And.intro (@yPw) (@yPx)) (And.intro (@ia_2) (And.intro (@ia_3) (@ia_4))))) (And.intro (And.intro (And.intro (@ia_5) (@yPy)) (And.intro (@yPz) (@yOv))) (And.intro (And.intro (@yOw) (@yOx)) (And.intro (@yOy) (And.intro (@zRv) (@yOz)))))) (And.intro (And.intro (And.intro (And.intro (@yNv) (@yNw)) (And.intro (@yNx) (@yNy))) (And.intro (And.intro (@yNz) (@yMv)) (And.intro (@yMw) (And.intro (@yMx) (@sz_2))))) (And.intro (And.intro (And.intro (@sz_3) (@sz_4)) (And.intro (@sz_5) (And.intro (@zQv) (@zYw)))) (And.intro (And.intro (@zYx) (@zYy)) (And.intro (@zYz) (And.intro (@zXv) (@zRx))))))) (And.intro (And.intro (And.intro (And.intro (And.intro (@zXw) (@zXx)) (And.intro (@zXy) (@zQx))) (And.intro (And.intro (@zXz) (@zWv)) (And.intro (@zWw) (And.intro (@zWx) (@zWy))))) (And.intro (And.intro (And.intro (@ze_2) (@ze_3)) (And.intro (@ze_4) (And.intro (@ze_5) (@zWz)))) (And.intro (And.intro (@zVv) (@zVw)) (And.intro (@zVx) (And.intro (@zVy) (@zVz)))))) (And.intro (And.intro (And.intro (And.intro (@zUv) (@zUw)) (And.intro (@zUx) (@zUy))) (And.intro (And.intro (@zUz) (@zTv)) (And.intro (@zTw) (And.intro (@zTx) (@zTy))))) (And.intro (And.intro (And.intro (@zOy) (@zOz)) (And.intro (@zNv) (And.intro (@zNw) (@zNx)))) (And.intro (And.intro (@zNy) (@zNz)) (And.intro (@zMv) (And.intro (@zMw) (@yMy)))))))) (And.intro (And.intro (And.intro (And.intro (And.intro (And.intro (@yMz) (@yLv)) (And.intro (@yLw) (@yLx))) (And.intro (And.intro (@yLy) (@yLz)) (And.intro (@yKv) (And.intro (@yKw) (@yKx))))) (And.intro (And.intro (And.intro (@yKy) (@yKz)) (And.intro (@yJv) (@yJw))) (And.intro (And.intro (@yJx) (@yJy)) (And.intro (@yJz) (And.intro (@yIv) (@yIw)))))) (And.intro (And.intro (And.intro (And.intro (@yIx) (@yIy)) (And.intro (@yIz) (@yHv))) (And.intro (And.intro (@yHw) (@yHx)) (And.intro (@yHy) (And.intro (@yHz) (@yGv))))) (And.intro (And.intro (And.intro (@yGw) (@yGx)) (And.intro (@yGy) (And.intro (@yGz) (@yFv)))) (And.intro (And.intro (@yFw) (@yFx)) (And.intro (@yFy) (And.intro (@yFz) (@yEv))))))) (And.intro (And.intro (And.intro (And.intro (And.intro (@yEw) (@yEx)) (And.intro (@yEy) (@yEz))) (And.intro (And.intro (@yDv) (@yDw)) (And.intro (@yDx) (And.intro (@yDy) (@yDz))))) (And.intro (And.intro (And.intro (@yCv) (@yCw)) (And.intro (@yCx) (And.intro (@yCy) (@yCz)))) (And.intro (And.intro (@zSz) (@yBv)) (And.intro (@yBw) (And.intro (@yBx) (@yBy)))))) (And.intro (And.intro (And.intro (And.intro (@yBz) (@yAv)) (And.intro (@yAw) (@yAx))) (And.intro (And.intro (@yAy) (@yAz)) (And.intro (@zZv) (And.intro (@zZw) (@zZx))))) (And.intro (And.intro (And.intro (@zZy) (@zZz)) (And.intro (@zQy) (And.intro (@zSv) (@zSw)))) (And.intro (And.intro (@zQw) (@zSx)) (And.intro (@zRy) (And.intro (@zSy) (@zRw))))))))
def errRun (xs ys:List Int) (many:Int):Int:=if err3 xs ys=0 then (if many<0 then 2 else if 4096<many then 6 else 0) else err3 xs ys
theorem err3_ok {xs ys:List Int} (h:err3 xs ys=0):(xs.length≤128∧good xs=true)∧good ys=true∧ys.length=xs.length:=by
  unfold err3 at h
  split at h
  · rename_i h2
    split at h
    · rename_i h3
      unfold err2 at h2
      split at h2
      · rename_i h4
        exact ⟨xUw.1 h4,(xUw.1 h2).2,h3⟩
      · contradiction
    · exact absurd h (by decide)
  · contradiction
def mL (m:Nat→Bool) (n:Nat):List Bool:=(List.range n).map m
theorem yRw (m:Nat→Bool) (n:Nat):(mL m n).length=n:=by unfold mL;simp
theorem mL_succ (m:Nat→Bool) (n:Nat):mL m (n+1)=mL m n++[m n]:=by unfold mL;rw [List.range_succ,List.map_append];rfl
theorem mL_take {m:Nat→Bool} {bs:List Bool} {L:Nat} (hb:bs.length=L) (hm : ∀ i,i<L→m i=sq bs i) {n:Nat} (hn:n≤L):bs.take n=mL m n:=by
  apply List.ext_getElem?
  intro i
  rw [List.getElem?_take]
  unfold mL
  rw [List.getElem?_map]
  by_cases h:i<n
  · rw [if_pos h,List.getElem?_range h,Option.map_some,hm i (by omega),sq,List.getD_eq_getElem?_getD,List.getElem?_eq_getElem (by omega)]
    rfl
  · rw [if_neg h,List.getElem?_eq_none (by simp;omega)];rfl
theorem runOK (ts ss:List Bool) (ht:ts.length≤128) (hss:ss.length=ts.length) (many:Nat) (hmn:many≤4096) (a b:AV) (h:H) (wf:Wf h) (hs:Sl h a 1 ts.length (ts.map bi)) (hst:Sl h b 1 ss.length (ss.map bi)) (hcb:CapU 1 b) (xs ys:List Int) (hx:xs.length=ts.length) (hxm:xs.map ii=ts.map bi) (hy:ys.length=ss.length) (hym:ys.map ii=ss.map bi) (he:err3 xs ys=0) :
    ∃ L:List AO,L[1]? = some (.cells (zBz ((mL (runS (bN ts) ts.length (sq ss)) many).map bi)) 3)∧(om Try.prog KK).call (.fn 16 [a,b,ii (many:Int)]) h = .ok (.tup [.sl (nx h 1) 0 many (some many) 1,ii 0]) (X h L h.w):=by
  suffices hW:WV ((om Try.prog KK).call (.fn 16 [a,b,ii (many:Int)]) h) fun v h'=>∃ L:List AO,L[1]? = some (.cells (zBz ((mL (runS (bN ts) ts.length (sq ss)) many).map bi)) 3)∧v = .tup [.sl (nx h 1) 0 many (some many) 1,ii 0]∧h'=X h L h.w by
    obtain ⟨v,h',e,L,h3,rfl,rfl⟩:=hW
    exact ⟨L,h3,e⟩
  have hrun:=runS_is (bN ts) ts.length (sq ss)
  have hfirst:=hrun.first
  have hT:bN ts<2 ^ 128:=bN_lt128 ht
  generalize hme:runS (bN ts) ts.length (sq ss)=m at *
  obtain ⟨f1,f2⟩:=zPv hst
  have hmk : ∀ l w,makeSliceE Try.prog 22 (.int .i64 (many:Int)) (.int .i64 (many:Int)) (X h l w) = .ok (.sl (nx h l.length) 0 many (some many) 1) (X h (l++[.cells (zBz (List.replicate many (.int .i64 0))) 3]) w):=
    fun l w=>xPv wf yTx sz_3 el_3 (by omega) (by decide) rfl
  have cst : ∀ (l:List AO) (w:Nat),w≤h.clock+l.length→(om Try.prog KK).call (.fn 41 [a,b]) (X h l w) = .ok (ii 0) (X h l w):=fun l w hw=>by
    have:=checkStart xs ys a b _ (wf.X hw) (by rw [hx,hxm];exact hs.up wf l w) (by rw [hy,hym];exact hst.up wf l w)
    rw [he] at this
    exact this
  have creg : ∀ (l:List AO) (w:Nat),w≤h.clock+l.length→(om Try.prog KK).call (.fn 42 [a]) (X h l w) = .ok (.agg (rg (bN ts) ts.length)) (X h l w):=fun l w hw=>registerOf ts ht a _ (wf.X hw) (hs.up wf l w)
  have crun : ∀ (l:List AO) (w:Nat),w≤h.clock+l.length→(om Try.prog KK).call (.fn 43 [.agg (rg (bN ts) ts.length),b]) (X h l w) = .ok (.fn 67 [] [.ptr (nx h l.length) 0,.ptr (nx h (l.length+1)) 0]) (X h (l++[.cells (zBz (rg (bN ts) ts.length)) 59,.cells (zBz [b]) 22]) w):=fun l w hw=>run_ (bN ts) ts.length b ⟨f1,f2⟩ h wf l w hw
  have ccopy : ∀ w,w≤h.clock+3→h.clock≤w → ∃ w',h.clock≤w'∧w'≤w∧copyE Try.prog 22 (.sl (nx h 1) 0 many (some many) 1) (reszT Try.prog 22 b) (X h [.cells (zBz [ii (many:Int)]) 3,.cells (zBz (List.replicate many (.int .i64 0))) 3,.cells (zBz [.sl (nx h 1) 0 many (some many) 1]) 22] w) = .ok (.int .i64 ((min ts.length many:Nat):Int)) (X h [.cells (zBz [ii (many:Int)]) 3,.cells (zBz ((mL m (min ts.length many)).map bi++List.replicate (many - min ts.length many) (.int .i64 0))) 3,.cells (zBz [.sl (nx h 1) 0 many (some many) 1]) 22] w'):=fun w hw1 hw2=>by
    obtain ⟨w',h1,h2,h3⟩:=copyE_any (P:=Try.prog) (cap:=some many) (esz:=1) (len:=many) (n:=ts.length) (cs:=ss.map bi) (old:=List.replicate many (.int .i64 0)) (k:=1) (w:=w) (l:=[.cells (zBz [ii (many:Int)]) 3,.cells (zBz (List.replicate many (.int .i64 0))) 3,.cells (zBz [.sl (nx h 1) 0 many (some many) 1]) 22]) wf yTx sz_3 (x:=reszT Try.prog 22 b) (by have:=(hst.up wf [.cells (zBz [ii (many:Int)]) 3,.cells (zBz (List.replicate many (.int .i64 0))) 3,.cells (zBz [.sl (nx h 1) 0 many (some many) 1]) 22] w).srcE hcb.2 yTx sz_3;rw [hss] at this;exact this) (by simp [hss]) rfl (by simp) (fun k=>by rw [← List.map_take];exact allOne_map (fun _=>rfl) _)
    refine ⟨w',by omega,h2,?_⟩
    rw [h3,← List.map_take,mL_take hss hfirst (Nat.min_le_left _ _),List.drop_replicate]
    rfl
  refine zMy (fn:=Try.f16) Try.func16 rfl rfl rfl rfl rfl ?_
  simp only [zKv]
  have n0 : ¬ ((many:Int)<0):=by omega
  have n1 : ¬ ((4096:Int)<(many:Int)):=by omega
  have hd0:decide ((many:Int)<0)=false:=decide_eq_false n0
  have hd1:decide ((4096:Int)<(many:Int))=false:=decide_eq_false n1
  obtain ⟨w1,hw1,hw1',hcp⟩:=ccopy h.clock (by omega) (by omega)
  (repeat' (first
  | (with_reducible first|refine zJx ?_|refine zGw ?_|refine zFz ?_|refine zEv ?_|refine zFy ?_|refine zJw ?_|refine zGv ?_|refine zCz ?_|refine zDw ?_|refine zCy ?_|refine zCv ?_|refine zEx ?_|refine zDz ?_|refine zCx ?_|refine zBx ?_|refine zEz ?_|refine zEy ?_|refine zAw ?_|refine zBy ?_)
  | refine zDy ?_|refine zEw rfl ?_|refine zIv ?_|refine zJy ?_
  | ((first|refine zGx rfl rfl rfl rfl rfl fun K_ hK_=>?_|refine zGy rfl rfl rfl rfl rfl fun K_ hK_=>?_);simp only [zAz,zDx,zGz,↓reduceIte,reduceCtorEq,Nat.reduceEqDiff,Bool.not_true,Bool.not_false];refine hK_ _ ?_;clear hK_ K_)
  | refine zDv (by decide) ?_
  | ((try first|refine zKy rfl rfl rfl ?_|refine zIw rfl rfl ?_|refine zKx rfl rfl rfl ?_|refine zJz rfl rfl ?_);(refine zIx fun Q_ hQ_=>?_;simp (disch:=first|omega|(simp only [List.length_cons,List.length_nil,List.length_append];omega)) only [bb,bp,zKv,↓reduceIte,reduceCtorEq,Nat.reduceEqDiff,Nat.reduceLT,Nat.reduceLeDiff,Nat.reduceAdd,Nat.reduceMul,Nat.reduceSub,Nat.reduceBEq,Int.reduceToNat,cond_true,cond_false,eq_self,beq_self_eq_true,hd0,hd1,hmk,hcp,f1,f2,xRy,zFx wf,zHx wf,zBv wf,zFw wf,zAy wf,zAx,tEvZ10,zIy,zIz,zHv,zHw,zAv wf];first|(refine zCw (Q:=Q_) (fun hp_=>?_) (fun hp_=>?_) <;> first|(exfalso;omega)|(refine hQ_ _ _ ?_;clear hQ_ Q_))|(refine zBw (Q:=Q_) (fun hp_=>?_) (fun hp_=>?_) <;> first|(exfalso;omega)|(refine hQ_ _ _ ?_;clear hQ_ Q_))|(refine hQ_ _ _ ?_;clear hQ_ Q_)|(refine zOv (cst _ _ (by first|omega|(simp only [List.length_append,List.length_cons,List.length_nil];omega))) ?_;refine hQ_ _ _ ?_;clear hQ_ Q_)|(refine zOv (creg _ _ (by first|omega|(simp only [List.length_append,List.length_cons,List.length_nil];omega))) ?_;refine hQ_ _ _ ?_;clear hQ_ Q_)|(refine zOv (crun _ _ (by first|omega|(simp only [List.length_append,List.length_cons,List.length_nil];omega))) ?_;refine hQ_ _ _ ?_;clear hQ_ Q_)))
  | (refine zHz fun K_ hK_=>?_;simp (disch:=omega) only [zFv,zAz,zHy,↓reduceIte,reduceCtorEq,Nat.reduceEqDiff,Nat.reduceLT];refine hK_ _ ?_;clear hK_ K_)))
  refine WC_rangeX wf rfl (zFv (by decide)) fun o ho=>?_
  simp only [zAz,↓reduceIte,reduceCtorEq,Nat.reduceEqDiff,List.append_assoc,List.cons_append,List.nil_append,List.length_append,List.length_cons,List.length_nil,Nat.zero_add,Nat.reduceAdd,Nat.add_assoc]
  have hrun':IsRun (bN ts) ts.length (fun i=>ss.getD i false) m:=hrun
  refine WV.mono (runs (bN ts) ts.length hT ht ss hss m hrun' b wf hst ⟨f1,f2⟩ 4 5 (many - ts.length+1) (by omega) (nx h 7) _ _ ?_ ?_
    (fun q L=>q≤many - ts.length∧L=[.cells (zBz [ii (many:Int)]) 3,.cells (zBz ((mL m (min ts.length many+q)).map bi++List.replicate (many - (min ts.length many+q)) (.int .i64 0))) 3,.cells (zBz [.sl (nx h 1) 0 many (some many) 1]) 22,.cells (zBz [ii ((min ts.length many+q:Nat):Int)]) 3,.cells (zBz (rg (bN ts) ts.length)) 59,.cells (zBz [b]) 22,.dfr,o])
    (fun L=>∃ o2,doneE o2∧L=[.cells (zBz [ii (many:Int)]) 3,.cells (zBz ((mL m (many)).map bi++List.replicate (many - (many)) (.int .i64 0))) 3,.cells (zBz [.sl (nx h 1) 0 many (some many) 1]) 22,.cells (zBz [ii ((many:Nat):Int)]) 3,.cells (zBz (rg (bN ts) ts.length)) 59,.cells (zBz [b]) 22,.dfr,o2]) ?_ ?_ ?_) ?_
  · show _≤h.clock+8
    omega
  · omega
  · rintro q L ⟨_,rfl⟩
    exact ⟨rfl,rfl,rfl⟩
  · rintro q hq L J w ⟨hqn,rfl⟩ hw1 hw2
    have hw2':w≤h.clock+(8+J.length):=hw2
    simp only [List.cons_append,List.nil_append]
    refine WV_yldX wf (k:=7) rfl ho (setParams1 rfl) ?_
    (repeat' (first
  | (with_reducible first|refine zJx ?_|refine zGw ?_|refine zFz ?_|refine zEv ?_|refine zFy ?_|refine zJw ?_|refine zGv ?_|refine zCz ?_|refine zDw ?_|refine zCy ?_|refine zCv ?_|refine zEx ?_|refine zDz ?_|refine zCx ?_|refine zBx ?_|refine zEz ?_|refine zEy ?_|refine zAw ?_|refine zBy ?_)
  | refine zDy ?_|refine zEw rfl ?_|refine zIv ?_|refine zJy ?_
  | ((first|refine zGx rfl rfl rfl rfl rfl fun K_ hK_=>?_|refine zGy rfl rfl rfl rfl rfl fun K_ hK_=>?_);simp only [zAz,zDx,zGz,↓reduceIte,reduceCtorEq,Nat.reduceEqDiff,Bool.not_true,Bool.not_false];refine hK_ _ ?_;clear hK_ K_)
  | refine zDv (by decide) ?_
  | ((try first|refine zKy rfl rfl rfl ?_|refine zIw rfl rfl ?_|refine zKx rfl rfl rfl ?_|refine zJz rfl rfl ?_);(refine zIx fun Q_ hQ_=>?_;simp (disch:=first|omega|(simp only [List.length_cons,List.length_nil,List.length_append];omega)) only [bb,bp,zKv,↓reduceIte,reduceCtorEq,Nat.reduceEqDiff,Nat.reduceLT,Nat.reduceLeDiff,Nat.reduceAdd,Nat.reduceMul,Nat.reduceSub,Nat.reduceBEq,Int.reduceToNat,cond_true,cond_false,eq_self,beq_self_eq_true,zFx wf,zHx wf,zBv wf,zFw wf,zAy wf,zAx,tEvZ10,zIy,zIz,zHv,zHw,zAv wf];first|(refine zCw (Q:=Q_) (fun hp_=>?_) (fun hp_=>?_) <;> first|(exfalso;omega)|(refine hQ_ _ _ ?_;clear hQ_ Q_))|(refine zBw (Q:=Q_) (fun hp_=>?_) (fun hp_=>?_) <;> first|(exfalso;omega)|(refine hQ_ _ _ ?_;clear hQ_ Q_))|(refine hQ_ _ _ ?_;clear hQ_ Q_)))
  | (refine zHz fun K_ hK_=>?_;simp (disch:=omega) only [zFv,zAz,zHy,↓reduceIte,reduceCtorEq,Nat.reduceEqDiff,Nat.reduceLT];refine hK_ _ ?_;clear hK_ K_)))
    refine yldA_X wf (k:=7) rfl ho fun o' ho'=>?_
    simp only [List.set_cons_succ,List.set_cons_zero]
    by_cases he:min ts.length many+q=many
    · rw [he]
      (repeat' (first
  | (with_reducible first|refine zJx ?_|refine zGw ?_|refine zFz ?_|refine zEv ?_|refine zFy ?_|refine zJw ?_|refine zGv ?_|refine zCz ?_|refine zDw ?_|refine zCy ?_|refine zCv ?_|refine zEx ?_|refine zDz ?_|refine zCx ?_|refine zBx ?_|refine zEz ?_|refine zEy ?_|refine zAw ?_|refine zBy ?_)
  | refine zDy ?_|refine zEw rfl ?_|refine zIv ?_|refine zJy ?_
  | ((first|refine zGx rfl rfl rfl rfl rfl fun K_ hK_=>?_|refine zGy rfl rfl rfl rfl rfl fun K_ hK_=>?_);simp only [zAz,zDx,zGz,↓reduceIte,reduceCtorEq,Nat.reduceEqDiff,Bool.not_true,Bool.not_false];refine hK_ _ ?_;clear hK_ K_)
  | refine zDv (by decide) ?_
  | ((try first|refine zKy rfl rfl rfl ?_|refine zIw rfl rfl ?_|refine zKx rfl rfl rfl ?_|refine zJz rfl rfl ?_);(refine zIx fun Q_ hQ_=>?_;simp (disch:=first|omega|(simp only [List.length_cons,List.length_nil,List.length_append];omega)) only [bb,bp,zKv,↓reduceIte,reduceCtorEq,Nat.reduceEqDiff,Nat.reduceLT,Nat.reduceLeDiff,Nat.reduceAdd,Nat.reduceMul,Nat.reduceSub,Nat.reduceBEq,Int.reduceToNat,cond_true,cond_false,eq_self,beq_self_eq_true,f1,f2,zFx wf,zHx wf,zBv wf,zFw wf,zAy wf,zAx,tEvZ10,zIy,zIz,zHv,zHw,zAv wf];first|(refine zCw (Q:=Q_) (fun hp_=>?_) (fun hp_=>?_) <;> first|(exfalso;omega)|(refine hQ_ _ _ ?_;clear hQ_ Q_))|(refine zBw (Q:=Q_) (fun hp_=>?_) (fun hp_=>?_) <;> first|(exfalso;omega)|(refine hQ_ _ _ ?_;clear hQ_ Q_))|(refine hQ_ _ _ ?_;clear hQ_ Q_)))
  | (refine zHz fun K_ hK_=>?_;simp (disch:=omega) only [zFv,zAz,zHy,↓reduceIte,reduceCtorEq,Nat.reduceEqDiff,Nat.reduceLT];refine hK_ _ ?_;clear hK_ K_)))
      refine xMy wf (k:=7) rfl ho' fun o2 ho2=>?_
      simp only [List.set_cons_succ,List.set_cons_zero]
      refine ⟨[.cells (zBz [ii (many:Int)]) 3,.cells (zBz ((mL m (many)).map bi++List.replicate (many - (many)) (.int .i64 0))) 3,.cells (zBz [.sl (nx h 1) 0 many (some many) 1]) 22,.cells (zBz [ii ((many:Nat):Int)]) 3,.cells (zBz (rg (bN ts) ts.length)) 59,.cells (zBz [b]) 22,.dfr,o2],[],_,by rw [List.append_nil];rfl,by omega,?_,.inr ⟨by first|rfl|trivial,rfl,o2,⟨_,_,_,_,_,_,_,ho2⟩,rfl⟩⟩
      show _<h.clock+8
      omega
    · have hmin:min ts.length many=ts.length:=by omega
      rw [hmin] at he ⊢
      have hne : ¬ ((ts.length+q:Nat):Int)=(many:Int):=by omega
      have hlt:ts.length+q<many:=by omega
      have hia:indexAddrE Try.prog 22 (.sl (nx h 1) 0 many (some many) 1) (.int .i64 ((ts.length+q:Nat):Int))=some (.ptr (nx h 1) (ts.length+q)):=by
        have ht:toNatE (.int .i64 ((ts.length+q:Nat):Int))=some (ts.length+q):=by rw [yVv (by omega),Int.toNat_natCast]
        simp only [yQv,ht,zQy,yVz hlt,Nat.zero_add,Nat.mul_one]
      have e5:List.replicate (many - (ts.length+q)) (AV.int .i64 0) = .int .i64 0 :: List.replicate (many - (ts.length+(q+1))) (.int .i64 0):=by
        rw [show many - (ts.length+q)=many - (ts.length+(q+1))+1 by omega,List.replicate_succ]
      have e6:(mL m (ts.length+(q+1))).map bi=(mL m (ts.length+q)).map bi++[bi (m (ts.length+q))]:=by rw [← Nat.add_assoc,mL_succ,List.map_append];rfl
      have hplus:((ts.length+q:Nat):Int)+1=((ts.length+(q+1):Nat):Int):=by omega
      rw [e5]
      have hCl:((mL m (ts.length+q)).map bi).length=ts.length+q:=by rw [List.length_map,yRw]
      generalize hC:(mL m (ts.length+q)).map bi=C at *
      generalize hR:List.replicate (many - (ts.length+(q+1))) (AV.int .i64 0)=R at *
      have hob:oneB (bi (m (ts.length+q)))=true:=rfl
      have hob2:AV.cells (bi (m (ts.length+q)))=[bi (m (ts.length+q))]:=rfl
      generalize bi (m (ts.length+q))=bm at *
      have hst2 : ∀ (o0:AO) (l:List AO) w,store1 (nx h 1) (ts.length+q) bm (X h (o0 :: .cells (zBz (C ++ .int .i64 0 :: R)) 3 :: l) w)=some (X h (o0 :: .cells (zBz ((C++[bm])++R)) 3 :: l) (min (h.clock+1) w)):=fun o0 l w=>by
        have e:storeAt (some (.cells (zBz (C ++ .int .i64 0 :: R)) 3)) (ts.length+q) bm=some (.cells (zBz ((C++[bm])++R)) 3):=by
          rw [yVx,hob,cond_true,if_pos (by simp;omega),← hCl,List.set_append_right _ _ (Nat.le_refl _),Nat.sub_self,List.set_cons_zero,List.append_assoc];rfl
        rw [zFw wf]
        show (match storeAt (some (.cells (zBz (C ++ .int .i64 0 :: R)) 3)) (ts.length+q) bm with|some o'=>_|none=>_)=_
        rw [e]
        rfl
      (repeat' (first
  | (with_reducible first|refine zJx ?_|refine zGw ?_|refine zFz ?_|refine zEv ?_|refine zFy ?_|refine zJw ?_|refine zGv ?_|refine zCz ?_|refine zDw ?_|refine zCy ?_|refine zCv ?_|refine zEx ?_|refine zDz ?_|refine zCx ?_|refine zBx ?_|refine zEz ?_|refine zEy ?_|refine zAw ?_|refine zBy ?_)
  | refine zDy ?_|refine zEw rfl ?_|refine zIv ?_|refine zJy ?_
  | ((first|refine zGx rfl rfl rfl rfl rfl fun K_ hK_=>?_|refine zGy rfl rfl rfl rfl rfl fun K_ hK_=>?_);simp only [zAz,zDx,zGz,↓reduceIte,reduceCtorEq,Nat.reduceEqDiff,Bool.not_true,Bool.not_false];refine hK_ _ ?_;clear hK_ K_)
  | refine zDv (by decide) ?_
  | ((try first|refine zKy rfl rfl rfl ?_|refine zIw rfl rfl ?_|refine zKx rfl rfl rfl ?_|refine zJz rfl rfl ?_);(refine zIx fun Q_ hQ_=>?_;simp (disch:=first|omega|(simp only [List.length_cons,List.length_nil,List.length_append];omega)) only [bb,bp,zKv,↓reduceIte,reduceCtorEq,Nat.reduceEqDiff,Nat.reduceLT,Nat.reduceLeDiff,Nat.reduceAdd,Nat.reduceMul,Nat.reduceSub,Nat.reduceBEq,Int.reduceToNat,cond_true,cond_false,eq_self,beq_self_eq_true,f1,f2,hia,hst2,hplus,hob,hob2,zFx wf,zHx wf,zBv wf,zFw wf,zAy wf,zAx,tEvZ10,zIy,zIz,zHv,zHw,zAv wf];first|(refine zCw (Q:=Q_) (fun hp_=>?_) (fun hp_=>?_) <;> first|(exfalso;omega)|(refine hQ_ _ _ ?_;clear hQ_ Q_))|(refine zBw (Q:=Q_) (fun hp_=>?_) (fun hp_=>?_) <;> first|(exfalso;omega)|(refine hQ_ _ _ ?_;clear hQ_ Q_))|(refine hQ_ _ _ ?_;clear hQ_ Q_)))
  | (refine zHz fun K_ hK_=>?_;simp (disch:=omega) only [zFv,zAz,zHy,↓reduceIte,reduceCtorEq,Nat.reduceEqDiff,Nat.reduceLT];refine hK_ _ ?_;clear hK_ K_)))
      refine yldB_X wf (k:=7) rfl ho' ?_
      simp only [List.set_cons_succ,List.set_cons_zero]
      rw [← ho]
      refine ⟨[.cells (zBz [ii (many:Int)]) 3,.cells (zBz ((mL m (ts.length+(q+1))).map bi++List.replicate (many - (ts.length+(q+1))) (.int .i64 0))) 3,.cells (zBz [.sl (nx h 1) 0 many (some many) 1]) 22,.cells (zBz [ii ((ts.length+(q+1):Nat):Int)]) 3,.cells (zBz (rg (bN ts) ts.length)) 59,.cells (zBz [b]) 22,.dfr,o],[],_,by rw [List.append_nil,e6,hR,List.append_assoc];rfl,by omega,?_,.inl ⟨by first|rfl|trivial,by omega,by omega,by rw [hR]⟩⟩
      show _<h.clock+8
      omega
  · exact ⟨by omega,rfl⟩
  · rintro v h' ⟨L,J,w,rfl,hlo,hw,hl7,o2,⟨g',n',tm',ps',sg',bd',dd',ho2⟩,rfl⟩
    have hw':w≤h.clock+8:=hw
    simp only [List.cons_append,List.nil_append]
    refine rangeQ_X wf (k:=7) rfl ho2 (by decide) fun o' ho'=>?_
    simp only [List.set_cons_succ,List.set_cons_zero]
    (repeat' (first
  | (with_reducible first|refine zJx ?_|refine zGw ?_|refine zFz ?_|refine zEv ?_|refine zFy ?_|refine zJw ?_|refine zGv ?_|refine zCz ?_|refine zDw ?_|refine zCy ?_|refine zCv ?_|refine zEx ?_|refine zDz ?_|refine zCx ?_|refine zBx ?_|refine zEz ?_|refine zEy ?_|refine zAw ?_|refine zBy ?_)
  | refine zDy ?_|refine zEw rfl ?_|refine zIv ?_|refine zJy ?_
  | ((first|refine zGx rfl rfl rfl rfl rfl fun K_ hK_=>?_|refine zGy rfl rfl rfl rfl rfl fun K_ hK_=>?_);simp only [zAz,zDx,zGz,↓reduceIte,reduceCtorEq,Nat.reduceEqDiff,Bool.not_true,Bool.not_false];refine hK_ _ ?_;clear hK_ K_)
  | refine zDv (by decide) ?_
  | ((try first|refine zKy rfl rfl rfl ?_|refine zIw rfl rfl ?_|refine zKx rfl rfl rfl ?_|refine zJz rfl rfl ?_);(refine zIx fun Q_ hQ_=>?_;simp (disch:=first|omega|(simp only [List.length_cons,List.length_nil,List.length_append];omega)) only [bb,bp,zKv,↓reduceIte,reduceCtorEq,Nat.reduceEqDiff,Nat.reduceLT,Nat.reduceLeDiff,Nat.reduceAdd,Nat.reduceMul,Nat.reduceSub,Nat.reduceBEq,Int.reduceToNat,cond_true,cond_false,eq_self,beq_self_eq_true,f1,f2,zFx wf,zHx wf,zBv wf,zFw wf,zAy wf,zAx,tEvZ10,zIy,zIz,zHv,zHw,zAv wf];first|(refine zCw (Q:=Q_) (fun hp_=>?_) (fun hp_=>?_) <;> first|(exfalso;omega)|(refine hQ_ _ _ ?_;clear hQ_ Q_))|(refine zBw (Q:=Q_) (fun hp_=>?_) (fun hp_=>?_) <;> first|(exfalso;omega)|(refine hQ_ _ _ ?_;clear hQ_ Q_))|(refine hQ_ _ _ ?_;clear hQ_ Q_)))
  | (refine zHz fun K_ hK_=>?_;simp (disch:=omega) only [zFv,zAz,zHy,↓reduceIte,reduceCtorEq,Nat.reduceEqDiff,Nat.reduceLT];refine hK_ _ ?_;clear hK_ K_)))
    refine zKw _ _ (takeAll_X wf (k:=6) rfl) (ret2 (by decide) (by decide)) ?_
    simp only [zAz,↓reduceIte,reduceCtorEq,Nat.reduceEqDiff]
    refine WV_ext (by exact Bool.and_false _) ?_
    have hwe:min h.w (min (h.clock+6) (min (h.clock+7) w))=h.w:=by have:=wf.wle;omega
    rw [hwe,Nat.sub_self,List.replicate_zero,List.append_nil]
    exact ⟨_,rfl,rfl,rfl⟩
end Go.Proofs.Ytmincoafjnnkpaa
end

section
namespace Go.Proofs.Ytmincoafjnnkpaa
open Go.Ev
set_option maxRecDepth 100000
set_option linter.unusedSimpArgs false
set_option linter.unusedVariables false
set_option maxHeartbeats 2000000
end Go.Proofs.Ytmincoafjnnkpaa
end

section
namespace Go.Proofs.Ytmincoafjnnkpaa
open Go.Ev
set_option maxRecDepth 100000
set_option linter.unusedSimpArgs false
set_option linter.unusedVariables false
set_option maxHeartbeats 2000000
theorem works (h:H):(om Try.prog KK).call (.fn 15 []) h = .ok (.bool true) h:=by
  refine om_con (c:=cW) (r:=[]) ?_
  rfl
def regE (bs ts:List Bool):Int:=if makesB (bN ts) ts.length (sq bs) bs.length then 0 else 14
def errReg (xs ys:List Int):Int:=if err2 xs ys=0 then regE (bitL xs) (bitL ys) else err2 xs ys
end Go.Proofs.Ytmincoafjnnkpaa
end

section
namespace Go.Ev
theorem px_xor (f g:Nat→Bool) : ∀ n,px n (fun j=>f j ^^ g j)=(px n f ^^ px n g)
  | 0=>rfl
  | n+1=>by
    show (px n (fun j=>f j ^^ g j) ^^ (f n ^^ g n))=((px n f ^^ f n) ^^ (px n g ^^ g n))
    rw [px_xor f g n]
    cases px n f <;> cases px n g <;> cases f n <;> cases g n <;> rfl
theorem px_and (c:Bool) (f:Nat→Bool) : ∀ n,px n (fun j=>c && f j)=(c && px n f)
  | 0=>by cases c <;> rfl
  | n+1=>by
    show (px n (fun j=>c && f j) ^^ (c && f n))=(c && (px n f ^^ f n))
    rw [px_and c f n]
    cases c <;> simp
theorem px_swap (g:Nat→Nat→Bool) (m:Nat) : ∀ n,px n (fun j=>px m (g j))=px m (fun k=>px n (fun j=>g j k))
  | 0=>by
    show false=_
    exact (xIv fun _ _=>rfl).symm
  | n+1=>by
    show (px n (fun j=>px m (g j)) ^^ px m (g n))=px m (fun k=>px n (fun j=>g j k) ^^ g n k)
    rw [px_swap g m n,px_xor]
theorem px_one {f:Nat→Bool} {n k:Nat} (hk:k<n) (h : ∀ j,j<n→j≠k→f j=false):px n f=f k:=by
  induction n with
  | zero=>omega
  | succ n ih=>
    show (px n f ^^ f n)=f k
    by_cases e:k=n
    · subst e
      rw [xIv fun i hi=>h i (by omega) (by omega),Bool.false_xor]
    · rw [ih (by omega) fun j hj hne=>h j (by omega) hne,h n (by omega) (by omega),Bool.xor_false]
theorem px_shift (g:Nat) (f:Nat→Bool) : ∀ n,px (g+n) (fun j=>decide (g≤j) && f (j - g))=px n f
  | 0=>by
    rw [Nat.add_zero]
    exact xIv fun i hi=>by simp;omega
  | n+1=>by
    show (px (g+n) (fun j=>decide (g≤j) && f (j - g)) ^^ (decide (g≤g+n) && f (g+n - g)))=(px n f ^^ f n)
    rw [px_shift g f n,Nat.add_sub_cancel_left]
    simp
theorem bit_high {T L j:Nat} (h:T<2 ^ L) (hj:L≤j):T.testBit j=false:=
  Nat.testBit_lt_two_pow (Nat.lt_of_lt_of_le h (Nat.pow_le_pow_right (by decide) hj))
theorem pred_more {T L L':Nat} {s:Nat→Bool} {i:Nat} (hT:T<2 ^ L) (hL:L≤L'):pred T L' s i=pred T L s i:=by
  unfold pred
  exact px_more hL fun j h1 _=>by rw [bit_high hT h1,Bool.false_and]
structure Wrong (T L:Nat) (s:Nat→Bool) (p:Nat):Prop where
  le:L≤p
  makes:Makes T L s p
  bad:s p≠pred T L s p
theorem mass {T L p:Nat} {s:Nat→Bool} (w:Wrong T L s p) {T2 L2:Nat} (h:Makes T2 L2 s (p+1)):p+1≤L+L2:=by
  refine Nat.le_of_not_lt fun hlt=>?_
  refine w.bad ?_
  rw [h p (by omega) (by omega)]
  have e1:pred T2 L2 s p=px L2 (fun k=>T2.testBit k && px L (fun j=>T.testBit j && s (p - 1 - k - 1 - j))):=by
    refine zYv fun k hk=>?_
    rw [w.makes (p - 1 - k) (by omega) (by omega)];rfl
  have e2:pred T L s p=px L (fun j=>T.testBit j && px L2 (fun k=>T2.testBit k && s (p - 1 - j - 1 - k))):=by
    refine zYv fun j hj=>?_
    rw [h (p - 1 - j) (by omega) (by omega)];rfl
  rw [e1,e2]
  have e3:px L2 (fun k=>T2.testBit k && px L (fun j=>T.testBit j && s (p - 1 - k - 1 - j)))=px L2 (fun k=>px L (fun j=>T2.testBit k && (T.testBit j && s (p - 1 - k - 1 - j)))):=zYv fun k _=>(px_and _ _ _).symm
  have e4:px L (fun j=>T.testBit j && px L2 (fun k=>T2.testBit k && s (p - 1 - j - 1 - k)))=px L (fun j=>px L2 (fun k=>T.testBit j && (T2.testBit k && s (p - 1 - j - 1 - k)))):=zYv fun j _=>(px_and _ _ _).symm
  rw [e3,e4,px_swap]
  refine zYv fun j hj=>zYv fun k hk=>?_
  rw [show p - 1 - k - 1 - j=p - 1 - j - 1 - k by omega]
  cases T2.testBit k <;> cases T.testBit j <;> simp
def mend (T g T2:Nat):Nat:=T ^^^ ((1 <<< (g - 1)) % 2 ^ 128) ^^^ ((T2 <<< g) % 2 ^ 128)
theorem one_bit (g j:Nat):(1 <<< g).testBit j=decide (j=g):=by
  rw [Nat.shiftLeft_eq,Nat.one_mul,Nat.testBit_two_pow]
  simp only [decide_eq_decide]
  omega
theorem mend_bit {T g T2 j:Nat} (hg:1≤g) (hj:j<128):(mend T g T2).testBit j=((T.testBit j ^^ decide (j=g - 1)) ^^ (decide (g≤j) && T2.testBit (j - g))):=by
  unfold mend
  rw [Nat.testBit_xor,Nat.testBit_xor,Nat.testBit_mod_two_pow,Nat.testBit_mod_two_pow,one_bit,Nat.testBit_shiftLeft]
  simp [hj]
theorem mend_lt {T L g T2 L2:Nat} (hT:T<2 ^ L) (hT2:T2<2 ^ L2) (hg:1≤g):mend T g T2<2 ^ max L (L2+g):=by
  have h1:T<2 ^ max L (L2+g):=Nat.lt_of_lt_of_le hT (Nat.pow_le_pow_right (by decide) (Nat.le_max_left _ _))
  have h2:(1 <<< (g - 1)) % 2 ^ 128<2 ^ max L (L2+g):=by
    refine Nat.lt_of_le_of_lt (Nat.mod_le _ _) ?_
    rw [Nat.shiftLeft_eq,Nat.one_mul]
    exact Nat.pow_lt_pow_right (by decide) (by omega)
  have h3:(T2 <<< g) % 2 ^ 128<2 ^ max L (L2+g):=by
    refine Nat.lt_of_le_of_lt (Nat.mod_le _ _) ?_
    rw [Nat.shiftLeft_eq]
    have:T2 * 2 ^ g<2 ^ L2 * 2 ^ g:=Nat.mul_lt_mul_of_pos_right hT2 (Nat.two_pow_pos g)
    rw [← Nat.pow_add] at this
    exact Nat.lt_of_lt_of_le this (Nat.pow_le_pow_right (by decide) (by omega))
  exact Nat.xor_lt_two_pow (Nat.xor_lt_two_pow h1 h2) h3
theorem mended {T L p T2 L2 q:Nat} {s:Nat→Bool} (hT:T<2 ^ L) (w:Wrong T L s p) (hT2:T2<2 ^ L2) (w2:Wrong T2 L2 s q) (hqp:q<p) (hp:max L (L2+(p - q))≤128):Makes (mend T (p - q) T2) (max L (L2+(p - q))) s (p+1):=by
  intro i h1 h2
  generalize hg:p - q=g at *
  generalize hL:max L (L2+g)=L' at *
  have hgi:1≤g∧g≤i:=by omega
  have e:pred (mend T g T2) L' s i=((pred T L s i ^^ s (i - g)) ^^ pred T2 L2 s (i - g)):=by
    have e1:pred (mend T g T2) L' s i=px L' (fun j=>((T.testBit j && s (i - 1 - j)) ^^ (decide (j=g - 1) && s (i - 1 - j))) ^^ (decide (g≤j) && (T2.testBit (j - g) && s (i - g - 1 - (j - g))))):=by
      refine zYv fun j hj=>?_
      rw [mend_bit hgi.1 (by omega)]
      by_cases hgj:g≤j
      · rw [show i - g - 1 - (j - g)=i - 1 - j by omega]
        cases T.testBit j <;> cases decide (j=g - 1) <;> cases decide (g≤j) <;> cases T2.testBit (j - g) <;> cases s (i - 1 - j) <;> rfl
      · rw [decide_eq_false hgj]
        cases T.testBit j <;> cases decide (j=g - 1) <;> cases s (i - 1 - j) <;> rfl
    rw [e1,px_xor,px_xor]
    congr 1
    · congr 1
      · exact pred_more hT (by omega)
      · rw [px_one (k:=g - 1) (by omega) fun j hj hne=>by simp [hne],decide_eq_true rfl,Bool.true_and,show i - 1 - (g - 1)=i - g by omega]
    · rw [show L'=g+(L' - g) by omega]
      rw [px_shift g (fun k=>T2.testBit k && s (i - g - 1 - k))]
      exact pred_more hT2 (by omega)
  rw [e]
  by_cases hip:i=p
  · subst hip
    have hq:i - g=q:=by omega
    rw [hq]
    have b1:=w.bad
    have b2:=w2.bad
    revert b1 b2
    cases s i <;> cases pred T L s i <;> cases s q <;> cases pred T2 L2 s q <;> simp
  · rw [← w.makes i (by omega) (by omega),← w2.makes (i - g) (by omega) (by omega)]
    cases s i <;> cases s (i - g) <;> rfl
structure Cpx (s:Nat→Bool) (n L:Nat):Prop where
  some : ∃ T,T<2 ^ L∧Makes T L s n
  least : ∀ T' L',Makes T' L' s n→L≤L'
theorem Cpx.unique {s:Nat→Bool} {n L L':Nat} (a:Cpx s n L) (b:Cpx s n L'):L=L':=by
  obtain ⟨T,_,h⟩:=a.some
  obtain ⟨T',_,h'⟩:=b.some
  have:=a.least _ _ h'
  have:=b.least _ _ h
  omega
theorem Makes.less {T L m n:Nat} {s:Nat→Bool} (h:Makes T L s n) (hm:m≤n):Makes T L s m:=fun i h1 h2=>h i h1 (by omega)
end Go.Ev
end

section
namespace Go.Ev
def natOf (L:Nat) (f:Nat→Bool):Nat:=bN ((List.range L).map f)
theorem natOf_lt (L:Nat) (f:Nat→Bool):natOf L f<2 ^ L:=by
  unfold natOf
  have:=bN_lt ((List.range L).map f)
  simpa using this
theorem natOf_bit {L:Nat} (f:Nat→Bool) {j:Nat} (hj:j<L):(natOf L f).testBit j=f j:=by
  unfold natOf
  rw [xRw,List.getD_eq_getElem?_getD,List.getElem?_map,List.getElem?_range hj];rfl
structure Att where
  (T L:Nat) (at_:Int)
def Att.bound (a:Att):Int:=a.at_+1 - (a.L:Int)
def best1 (m:Att):List Att→Att
  | []=>m
  | x :: l=>best1 (if m.bound<x.bound then x else m) l
def bestA :List Att→Att
  | []=>⟨0,0,0⟩
  | m :: l=>best1 m l
theorem xUv (x:Att) : ∀ (l:List Att) (m:Att),best1 m (l++[x])=if (best1 m l).bound<x.bound then x else best1 m l
  | [],m=>rfl
  | y :: l,m=>by
    show best1 (if m.bound<y.bound then y else m) (l++[x])=_
    rw [xUv x l];rfl
theorem bestA_snoc {l:List Att} (x:Att) (hl:l≠[]):bestA (l++[x])=if (bestA l).bound<x.bound then x else bestA l:=by
  match l,hl with
  | m :: l,_=>exact xUv x l m
def OkBy (s:Nat→Bool) (p:Nat) (a:Att):Prop:=a=⟨0,0,-1⟩∨(a.T<2 ^ a.L ∧ ∃ q:Nat,a.at_=(q:Int)∧q<p∧Wrong a.T a.L s q)
inductive Chain (s:Nat→Bool):List Att→Nat→Nat→Nat→List Nat→Prop
  | nil:Chain s [⟨0,0,-1⟩] 0 0 0 []
  | snoc {l:List Att} {T L p q:Nat} {prof:List Nat} : Chain s l T L p prof→p≤q→Wrong T L s q→q<128 →
      Chain s (l++[⟨T,L,(q:Int)⟩]) (mend T ((q:Int) - (bestA l).at_).toNat (bestA l).T) (max L ((bestA l).L+((q:Int) - (bestA l).at_).toNat)) (q+1) (prof++List.replicate (q+1 - p) L)
structure Facts (s:Nat→Bool) (l:List Att) (T L p:Nat) (prof:List Nat):Prop where
  ne:l≠[]
  lt:T<2 ^ L
  le:L≤p
  p_le:p≤128
  cx:Cpx s p L
  makes:Makes T L s p
  best:(bestA l).bound=(L:Int)
  by_:OkBy s p (bestA l)
  len:prof.length=p
  prof_ : ∀ k,k<p → ∃ Lk:Nat,prof[k]? = some Lk∧Cpx s k Lk
  mono : ∀ (k Lk:Nat),prof[k]? = some Lk→Lk≤L
theorem Chain.facts {s:Nat→Bool} {l:List Att} {T L p:Nat} {prof:List Nat} (h:Chain s l T L p prof):Facts s l T L p prof:=by
  induction h with
  | nil=>exact ⟨by simp,by decide,Nat.le_refl _,by omega,⟨⟨0,by decide,fun i h1 h2=>by omega⟩,fun _ _ _=>Nat.zero_le _⟩,fun i h1 h2=>by omega,rfl,.inl rfl,rfl,fun k hk=>by omega,fun k Lk hk=>by simp at hk⟩
  | @snoc l T L p q prof _ hpq w hq ih=>
    obtain ⟨ne,lt,le,p_le,cx,makes,best,by_,len,prof_,mono⟩:=ih
    have hb:=bestA_snoc ⟨T,L,(q:Int)⟩ ne
    have hbb:(⟨T,L,(q:Int)⟩:Att).bound=(q:Int)+1 - (L:Int):=rfl
    have hbB:(bestA l).bound=(bestA l).at_+1 - ((bestA l).L:Int):=rfl
    generalize hB:bestA l=B at *
    have hlq:=w.le

    have hL':((max L (B.L+((q:Int) - B.at_).toNat):Nat):Int)=max (L:Int) ((q:Int)+1 - (L:Int))∧B.at_<(q:Int)∧0<((q:Int) - B.at_).toNat:=by
      have:B.at_<(q:Int):=by
        rcases by_ with h|⟨_,q',h,h2,_⟩
        · rw [h];show (-1:Int)<_;omega
        · omega
      omega
    obtain ⟨hL',hat,hg⟩:=hL'
    have hL128:max L (B.L+((q:Int) - B.at_).toNat)≤q+1:=by omega
    have hmk:Makes (mend T ((q:Int) - B.at_).toNat B.T) (max L (B.L+((q:Int) - B.at_).toNat)) s (q+1):=by
      rcases by_ with h|⟨hBT,q',h,h2,w2⟩
      · rw [h] at hL' hL128 ⊢
        intro i h1 h2
        have e:((q:Int) - (-1)).toNat=q+1:=by omega
        have:max L (0+((q:Int) - (-1)).toNat)≤i:=h1
        rw [e] at this
        omega
      · have hg2:((q:Int) - B.at_).toNat=q - q':=by omega
        rw [hg2] at hL128 ⊢
        exact mended lt w hBT w2 (by omega) (by omega)
    have hBlt:B.T<2 ^ B.L:=by
      rcases by_ with h|⟨hBT,_⟩
      · rw [h];decide
      · exact hBT
    have hlt:=mend_lt (T:=T) (L:=L) (T2:=B.T) (L2:=B.L) lt hBlt (g:=((q:Int) - B.at_).toNat) (by omega)
    have hleast : ∀ T' L',Makes T' L' s (q+1)→max L (B.L+((q:Int) - B.at_).toNat)≤L':=fun T' L' h=>by
      have h1:=cx.least T' L' (h.less (by omega))
      have h2:=mass w h
      omega
    refine ⟨by simp,hlt,by omega,by omega,⟨⟨_,hlt,hmk⟩,hleast⟩,hmk,?_,?_,?_,?_,?_⟩
    · rw [hb]
      split <;> omega
    · rw [hb]
      split
      · exact .inr ⟨lt,q,rfl,by omega,w⟩
      · rcases by_ with h|⟨h1,q',h2,h3,h4⟩
        · exact .inl h
        · exact .inr ⟨h1,q',h2,by omega,h4⟩
    · rw [List.length_append,List.length_replicate];omega
    · intro k hk
      by_cases hkp:k<p
      · obtain ⟨Lk,h1,h2⟩:=prof_ k hkp
        exact ⟨Lk,by rw [List.getElem?_append_left (by omega)];exact h1,h2⟩
      · refine ⟨L,by rw [List.getElem?_append_right (by omega),List.getElem?_replicate,if_pos (by omega)],⟨⟨T,lt,w.makes.less (by omega)⟩,fun T' L' h=>cx.least T' L' (h.less (by omega))⟩⟩
    · intro k Lk hk
      by_cases hkp:k<p
      · rw [List.getElem?_append_left (by omega)] at hk
        have:=mono k Lk hk
        omega
      · rw [List.getElem?_append_right (by omega),List.getElem?_replicate] at hk
        split at hk
        · cases hk;omega
        · cases hk
end Go.Ev
end
