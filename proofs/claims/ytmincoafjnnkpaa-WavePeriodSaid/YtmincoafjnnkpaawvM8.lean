import Derived.Test.YtmincoafjnnkpaawvM7
set_option linter.all false
section
namespace Go.Proofs.Ytmincoafjnnkpaa
open Go.Ev
set_option maxRecDepth 100000
set_option linter.unusedSimpArgs false
set_option linter.unusedVariables false
set_option maxHeartbeats 2000000
theorem tEvZ14 :type_of% (And.intro (And.intro (And.intro (And.intro (And.intro (And.intro (And.intro (@yQx) (@yQy)) (And.intro (@yQz) (@yPv))) (And.intro (And.intro (@yPw) (@yPx)) (And.intro (@ia_2) (And.intro (@ia_3) (@ia_4))))) (And.intro (And.intro (And.intro (@ia_5) (@yPy)) (And.intro (@yPz) (@yOv))) (And.intro (And.intro (@yOw) (@yOx)) (And.intro (@yOy) (And.intro (@zRv) (@yOz)))))) (And.intro (And.intro (And.intro (And.intro (@yNv) (@yNw)) (And.intro (@yNx) (@yNy))) (And.intro (And.intro (@yNz) (@yMv)) (And.intro (@yMw) (And.intro (@yMx) (@sz_2))))) (And.intro (And.intro (And.intro (@sz_3) (@sz_4)) (And.intro (@sz_5) (And.intro (@zQv) (@zYw)))) (And.intro (And.intro (@zYx) (@zYy)) (And.intro (@zYz) (And.intro (@zXv) (@zRx))))))) (And.intro (And.intro (And.intro (And.intro (And.intro (@zXw) (@zXx)) (And.intro (@zXy) (@zQx))) (And.intro (And.intro (@zXz) (@zWv)) (And.intro (@zWw) (And.intro (@zWx) (@zWy))))) (And.intro (And.intro (And.intro (@ze_2) (@ze_3)) (And.intro (@ze_4) (And.intro (@ze_5) (@zWz)))) (And.intro (And.intro (@zVv) (@zVw)) (And.intro (@zVx) (And.intro (@zVy) (@zVz)))))) (And.intro (And.intro (And.intro (And.intro (@zUv) (@zUw)) (And.intro (@zUx) (@zUy))) (And.intro (And.intro (@zUz) (@zTv)) (And.intro (@zTw) (And.intro (@zTx) (@zTy))))) (And.intro (And.intro (And.intro (@zOy) (@zOz)) (And.intro (@zNv) (And.intro (@zNw) (@zNx)))) (And.intro (And.intro (@zNy) (@zNz)) (And.intro (@zMv) (And.intro (@zMw) (@yMy)))))))) (And.intro (And.intro (And.intro (And.intro (And.intro (And.intro (@yMz) (@yLv)) (And.intro (@yLw) (@yLx))) (And.intro (And.intro (@yLy) (@yLz)) (And.intro (@yKv) (And.intro (@yKw) (@yKx))))) (And.intro (And.intro (And.intro (@yKy) (@yKz)) (And.intro (@yJv) (@yJw))) (And.intro (And.intro (@yJx) (@yJy)) (And.intro (@yJz) (And.intro (@yIv) (@yIw)))))) (And.intro (And.intro (And.intro (And.intro (@yIx) (@yIy)) (And.intro (@yIz) (@yHv))) (And.intro (And.intro (@yHw) (@yHx)) (And.intro (@yHy) (And.intro (@yHz) (@yGv))))) (And.intro (And.intro (And.intro (@yGw) (@yGx)) (And.intro (@yGy) (And.intro (@yGz) (@yFv)))) (And.intro (And.intro (@yFw) (@yFx)) (And.intro (@yFy) (And.intro (@yFz) (@yEv))))))) (And.intro (And.intro (And.intro (And.intro (And.intro (@yEw) (@yEx)) (And.intro (@yEy) (@yEz))) (And.intro (And.intro (@yDv) (@yDw)) (And.intro (@yDx) (And.intro (@yDy) (@yDz))))) (And.intro (And.intro (And.intro (@yCv) (@yCw)) (And.intro (@yCx) (And.intro (@yCy) (@yCz)))) (And.intro (And.intro (@zSz) (@yBv)) (And.intro (@yBw) (And.intro (@yBx) (@yBy)))))) (And.intro (And.intro (And.intro (And.intro (@yBz) (@yAv)) (And.intro (@yAw) (@yAx))) (And.intro (And.intro (@yAy) (@yAz)) (And.intro (@zZv) (And.intro (@zZw) (@zZx))))) (And.intro (And.intro (And.intro (@zZy) (@zZz)) (And.intro (@zQy) (And.intro (@zSv) (@zSw)))) (And.intro (And.intro (@zQw) (@zSx)) (And.intro (@zRy) (And.intro (@zSy) (@zRw))))))))):=And.intro (And.intro (And.intro (And.intro (And.intro (And.intro (And.intro (@yQx) (@yQy)) (And.intro (@yQz) (@yPv))) (And.intro (And.intro (@yPw) (@yPx)) (And.intro (@ia_2) (And.intro (@ia_3) (@ia_4))))) (And.intro (And.intro (And.intro (@ia_5) (@yPy)) (And.intro (@yPz) (@yOv))) (And.intro (And.intro (@yOw) (@yOx)) (And.intro (@yOy) (And.intro (@zRv) (@yOz)))))) (And.intro (And.intro (And.intro (And.intro (@yNv) (@yNw)) (And.intro (@yNx) (@yNy))) (And.intro (And.intro (@yNz) (@yMv)) (And.intro (@yMw) (And.intro (@yMx) (@sz_2))))) (And.intro (And.intro (And.intro (@sz_3) (@sz_4)) (And.intro (@sz_5) (And.intro (@zQv) (@zYw)))) (And.intro (And.intro (@zYx) (@zYy)) (And.intro (@zYz) (And.intro (@zXv) (@zRx))))))) (And.intro (And.intro (And.intro (And.intro (And.intro (@zXw) (@zXx)) (And.intro (@zXy) (@zQx))) (And.intro (And.intro (@zXz) (@zWv)) (And.intro (@zWw) (And.intro (@zWx) (@zWy))))) (And.intro (And.intro (And.intro (@ze_2) (@ze_3)) (And.intro (@ze_4) (And.intro (@ze_5) (@zWz)))) (And.intro (And.intro (@zVv) (@zVw)) (And.intro (@zVx) (And.intro (@zVy) (@zVz)))))) (And.intro (And.intro (And.intro (And.intro (@zUv) (@zUw)) (And.intro (@zUx) (@zUy))) (And.intro (And.intro (@zUz) (@zTv)) (And.intro (@zTw) (And.intro (@zTx) (@zTy))))) (And.intro (And.intro (And.intro (@zOy) (@zOz)) (And.intro (@zNv) (And.intro (@zNw) (@zNx)))) (And.intro (And.intro (@zNy) (@zNz)) (And.intro (@zMv) (And.intro (@zMw) (@yMy)))))))) (And.intro (And.intro (And.intro (And.intro (And.intro (And.intro (@yMz) (@yLv)) (And.intro (@yLw) (@yLx))) (And.intro (And.intro (@yLy) (@yLz)) (And.intro (@yKv) (And.intro (@yKw) (@yKx))))) (And.intro (And.intro (And.intro (@yKy) (@yKz)) (And.intro (@yJv) (@yJw))) (And.intro (And.intro (@yJx) (@yJy)) (And.intro (@yJz) (And.intro (@yIv) (@yIw)))))) (And.intro (And.intro (And.intro (And.intro (@yIx) (@yIy)) (And.intro (@yIz) (@yHv))) (And.intro (And.intro (@yHw) (@yHx)) (And.intro (@yHy) (And.intro (@yHz) (@yGv))))) (And.intro (And.intro (And.intro (@yGw) (@yGx)) (And.intro (@yGy) (And.intro (@yGz) (@yFv)))) (And.intro (And.intro (@yFw) (@yFx)) (And.intro (@yFy) (And.intro (@yFz) (@yEv))))))) (And.intro (And.intro (And.intro (And.intro (And.intro (@yEw) (@yEx)) (And.intro (@yEy) (@yEz))) (And.intro (And.intro (@yDv) (@yDw)) (And.intro (@yDx) (And.intro (@yDy) (@yDz))))) (And.intro (And.intro (And.intro (@yCv) (@yCw)) (And.intro (@yCx) (And.intro (@yCy) (@yCz)))) (And.intro (And.intro (@zSz) (@yBv)) (And.intro (@yBw) (And.intro (@yBx) (@yBy)))))) (And.intro (And.intro (And.intro (And.intro (@yBz) (@yAv)) (And.intro (@yAw) (@yAx))) (And.intro (And.intro (@yAy) (@yAz)) (And.intro (@zZv) (And.intro (@zZw) (@zZx))))) (And.intro (And.intro (And.intro (@zZy) (@zZz)) (And.intro (@zQy) (And.intro (@zSv) (@zSw)))) (And.intro (And.intro (@zQw) (@zSx)) (And.intro (@zRy) (And.intro (@zSy) (@zRw))))))))
def attC (a:Att):List AV:=[uu (a.T % 2 ^ 64),uu (a.T >>> 64),ii (a.L:Int),ii a.at_]
theorem xAx (a:Att):(attC a).length=4:=rfl
theorem wAw {α : Type} {f : α → List AV} {m:Nat} (hf : ∀ a,(f a).length=m) : ∀ l:List α,(l.flatMap f).length=l.length * m
  | []=>by simp
  | a :: l=>by rw [List.flatMap_cons,List.length_append,hf,wAw hf l,List.length_cons,Nat.succ_mul];omega
theorem flat_at {α : Type} {f : α → List AV} {m:Nat} (hf : ∀ a,(f a).length=m) : ∀ {l:List α} {i:Nat} (hi:i<l.length),((l.flatMap f).drop (i * m)).take m=f l[i]
  | [],_,hi=>absurd hi (Nat.not_lt_zero _)
  | a :: l,0,_=>by
    rw [Nat.zero_mul,List.drop_zero,List.flatMap_cons,List.take_append_of_le_length (by rw [hf];exact Nat.le_refl _),List.take_of_length_le (by rw [hf];exact Nat.le_refl _)];rfl
  | a :: l,i+1,hi=>by
    rw [List.flatMap_cons,show (i+1) * m=m+i * m by rw [Nat.succ_mul];omega,← List.drop_drop,List.drop_left' (hf a)]
    exact flat_at hf (by simpa using hi)
theorem bound (a:Att) (h:H) (wf:Wf h) (hat : -1≤a.at_∧a.at_≤128) (hL:a.L≤128):(om Try.prog KK).call (.fn 52 [.agg (attC a)]) h = .ok (ii a.bound) h:=by
  unfold attC
  refine ySx (zMy (fn:=Try.f52) Try.func52 rfl rfl rfl rfl rfl ?_)
  simp only [zKv]
  (repeat' (first
  | (with_reducible first|refine zJx ?_|refine zGw ?_|refine zFz ?_|refine zEv ?_|refine zFy ?_|refine zJw ?_|refine zGv ?_|refine zCz ?_|refine zDw ?_|refine zCy ?_|refine zCv ?_|refine zEx ?_|refine zDz ?_|refine zCx ?_|refine zBx ?_|refine zEz ?_|refine zEy ?_|refine zAw ?_|refine zBy ?_)
  | refine zDy ?_|refine zEw rfl ?_|refine zIv ?_|refine zJy ?_
  | ((first|refine zGx rfl rfl rfl rfl rfl fun K_ hK_=>?_|refine zGy rfl rfl rfl rfl rfl fun K_ hK_=>?_);simp only [zAz,zDx,zGz,↓reduceIte,reduceCtorEq,Nat.reduceEqDiff,Bool.not_true,Bool.not_false];refine hK_ _ ?_;clear hK_ K_)
  | refine zDv (by decide) ?_
  | ((try first|refine zKy rfl rfl rfl ?_|refine zIw rfl rfl ?_|refine zKx rfl rfl rfl ?_|refine zJz rfl rfl ?_);(refine zIx fun Q_ hQ_=>?_;simp (disch:=first|omega|(simp only [List.length_cons,List.length_nil,List.length_append];omega)) only [bb,bp,zKv,↓reduceIte,reduceCtorEq,Nat.reduceEqDiff,Nat.reduceLT,Nat.reduceLeDiff,Nat.reduceAdd,Nat.reduceMul,Nat.reduceSub,Nat.reduceBEq,Int.reduceToNat,cond_true,cond_false,eq_self,beq_self_eq_true,zFx wf,zHx wf,zBv wf,zFw wf,zAy wf,zAx,tEvZ14,zIy,zIz,zHv,zHw,zAv wf];first|(refine zCw (Q:=Q_) (fun hp_=>?_) (fun hp_=>?_) <;> first|(exfalso;omega)|(refine hQ_ _ _ ?_;clear hQ_ Q_))|(refine zBw (Q:=Q_) (fun hp_=>?_) (fun hp_=>?_) <;> first|(exfalso;omega)|(refine hQ_ _ _ ?_;clear hQ_ Q_))|(refine hQ_ _ _ ?_;clear hQ_ Q_)))
  | (refine zHz fun K_ hK_=>?_;simp (disch:=omega) only [zFv,zAz,zHy,↓reduceIte,reduceCtorEq,Nat.reduceEqDiff,Nat.reduceLT];refine hK_ _ ?_;clear hK_ K_)))
  (refine zKw _ _ rfl (ret1 (by decide)) ?_;simp only [zAz,↓reduceIte,reduceCtorEq,Nat.reduceEqDiff];refine zLy rfl (by omega) ?_)
  exact ⟨rfl,rfl⟩
theorem strong1 (a:Att) (h:H) (wf:Wf h) (hat : -1≤a.at_∧a.at_≤128) (hL:a.L≤128):(om Try.prog KK).call (.fn 74 [.agg (attC a)]) h = .ok (ii a.bound) h:=by
  have c1 : ∀ (l:List AO) (w:Nat),w≤h.clock+l.length→(om Try.prog KK).call (.fn 52 [.agg [uu (a.T % 2 ^ 64),uu (a.T >>> 64),ii (a.L:Int),ii a.at_]]) (X h l w) = .ok (ii a.bound) (X h l w):=fun l w hw=>bound a _ (wf.X hw) hat hL
  unfold attC
  refine ySx (zMy (fn:=Try.f74) Try.func74 rfl rfl rfl rfl rfl ?_)
  simp only [zKv]
  (repeat' (first
  | (with_reducible first|refine zJx ?_|refine zGw ?_|refine zFz ?_|refine zEv ?_|refine zFy ?_|refine zJw ?_|refine zGv ?_|refine zCz ?_|refine zDw ?_|refine zCy ?_|refine zCv ?_|refine zEx ?_|refine zDz ?_|refine zCx ?_|refine zBx ?_|refine zEz ?_|refine zEy ?_|refine zAw ?_|refine zBy ?_)
  | refine zDy ?_|refine zEw rfl ?_|refine zIv ?_|refine zJy ?_
  | ((first|refine zGx rfl rfl rfl rfl rfl fun K_ hK_=>?_|refine zGy rfl rfl rfl rfl rfl fun K_ hK_=>?_);simp only [zAz,zDx,zGz,↓reduceIte,reduceCtorEq,Nat.reduceEqDiff,Bool.not_true,Bool.not_false];refine hK_ _ ?_;clear hK_ K_)
  | refine zDv (by decide) ?_
  | ((try first|refine zKy rfl rfl rfl ?_|refine zIw rfl rfl ?_|refine zKx rfl rfl rfl ?_|refine zJz rfl rfl ?_);(refine zIx fun Q_ hQ_=>?_;simp (disch:=first|omega|(simp only [List.length_cons,List.length_nil,List.length_append];omega)) only [bb,bp,zKv,↓reduceIte,reduceCtorEq,Nat.reduceEqDiff,Nat.reduceLT,Nat.reduceLeDiff,Nat.reduceAdd,Nat.reduceMul,Nat.reduceSub,Nat.reduceBEq,Int.reduceToNat,cond_true,cond_false,eq_self,beq_self_eq_true,zFx wf,zHx wf,zBv wf,zFw wf,zAy wf,zAx,tEvZ14,zIy,zIz,zHv,zHw,zAv wf];first|(refine zCw (Q:=Q_) (fun hp_=>?_) (fun hp_=>?_) <;> first|(exfalso;omega)|(refine hQ_ _ _ ?_;clear hQ_ Q_))|(refine zBw (Q:=Q_) (fun hp_=>?_) (fun hp_=>?_) <;> first|(exfalso;omega)|(refine hQ_ _ _ ?_;clear hQ_ Q_))|(refine hQ_ _ _ ?_;clear hQ_ Q_)|(refine zOv (c1 _ _ (by first|omega|(simp only [List.length_append,List.length_cons,List.length_nil];omega))) ?_;refine hQ_ _ _ ?_;clear hQ_ Q_)))
  | (refine zHz fun K_ hK_=>?_;simp (disch:=omega) only [zFv,zAz,zHy,↓reduceIte,reduceCtorEq,Nat.reduceEqDiff,Nat.reduceLT];refine hK_ _ ?_;clear hK_ K_)))
  (refine zKw _ _ rfl (ret1 (by decide)) ?_;simp only [zAz,↓reduceIte,reduceCtorEq,Nat.reduceEqDiff];refine zLy rfl (by omega) ?_)
  exact ⟨rfl,rfl⟩
theorem mendC (a b:Att) (g:Nat) (hg:a.at_ - b.at_=(g:Int)) (hg1:1≤g∧g≤128) (ha:a.T<2 ^ 128) (hb:b.T<2 ^ 128) (hL:a.L≤128∧b.L≤128) (h:H) (wf:Wf h) :
    (om Try.prog KK).call (.fn 71 [.agg (attC a),.agg (attC b)]) h = .ok (.agg (rg (mend a.T g b.T) (max a.L (b.L+g)))) h:=by
  have hg0:(g:Int) - 1=((g - 1:Nat):Int):=by omega
  have hbg:(b.L:Int)+(g:Int)=((b.L+g:Nat):Int):=by omega
  have hmx:max (a.L:Int) ((b.L+g:Nat):Int)=((max a.L (b.L+g):Nat):Int):=by omega
  have c1 : ∀ (l:List AO) (w:Nat),w≤h.clock+l.length→(om Try.prog KK).call (.fn 79 [.agg [.int .u64 1,.int .u64 0],.int .i64 ((g - 1:Nat):Int)]) (X h l w) = .ok (.agg (wd ((1 <<< (g - 1)) % 2 ^ 128))) (X h l w):=fun l w hw=>up 1 (g - 1) (by omega) _ (wf.X hw)
  have c2 : ∀ (l:List AO) (w:Nat),w≤h.clock+l.length→(om Try.prog KK).call (.fn 79 [.agg [uu (b.T % 2 ^ 64),uu (b.T >>> 64)],.int .i64 (g:Int)]) (X h l w) = .ok (.agg (wd ((b.T <<< g) % 2 ^ 128))) (X h l w):=fun l w hw=>up b.T g (by omega) _ (wf.X hw)
  have hU1:(1 <<< (g - 1)) % 2 ^ 128<2 ^ 128:=Nat.mod_lt _ (by decide)
  have hU2:(b.T <<< g) % 2 ^ 128<2 ^ 128:=Nat.mod_lt _ (by decide)
  unfold mend
  generalize (1 <<< (g - 1)) % 2 ^ 128=U1 at *
  generalize (b.T <<< g) % 2 ^ 128=U2 at *
  have c3 : ∀ (o1 o2 o3 o4:AO) w,w≤h.clock+5→(om Try.prog KK).call (.fn 65 [.sl (nx h 4) 0 3 (some 3) 2]) (X h [o1,o2,o3,o4,.cells (zBz [uu (a.T % 2 ^ 64),uu (a.T >>> 64),uu (U1 % 2 ^ 64),uu (U1 >>> 64),uu (U2 % 2 ^ 64),uu (U2 >>> 64)]) 57] w) = .ok (.agg (wd (a.T ^^^ U1 ^^^ U2))) (X h [o1,o2,o3,o4,.cells (zBz [uu (a.T % 2 ^ 64),uu (a.T >>> 64),uu (U1 % 2 ^ 64),uu (U1 >>> 64),uu (U2 % 2 ^ 64),uu (U2 >>> 64)]) 57] w):=fun o1 o2 o3 o4 w hw=>by
    have:=sum [a.T,U1,U2] (by intro N hN;simp at hN;rcases hN with rfl|rfl|rfl <;> assumption) (by simp) (.sl (nx h 4) 0 3 (some 3) 2) _ (wf.X (l:=[o1,o2,o3,o4,.cells (zBz [uu (a.T % 2 ^ 64),uu (a.T >>> 64),uu (U1 % 2 ^ 64),uu (U1 >>> 64),uu (U2 % 2 ^ 64),uu (U2 >>> 64)]) 57]) hw) (Sl.new (k:=4) wf rfl rfl)
    rw [xall3] at this
    exact this
  generalize a.T ^^^ U1 ^^^ U2=R at *
  unfold wd at c1 c2 c3
  unfold attC rg
  refine ySx (zMy (fn:=Try.f71) Try.func71 rfl rfl rfl rfl rfl ?_)
  simp only [zKv]
  (repeat' (first
  | (with_reducible first|refine zJx ?_|refine zGw ?_|refine zFz ?_|refine zEv ?_|refine zFy ?_|refine zJw ?_|refine zGv ?_|refine zCz ?_|refine zDw ?_|refine zCy ?_|refine zCv ?_|refine zEx ?_|refine zDz ?_|refine zCx ?_|refine zBx ?_|refine zEz ?_|refine zEy ?_|refine zAw ?_|refine zBy ?_)
  | refine zDy ?_|refine zEw rfl ?_|refine zIv ?_|refine zJy ?_
  | ((first|refine zGx rfl rfl rfl rfl rfl fun K_ hK_=>?_|refine zGy rfl rfl rfl rfl rfl fun K_ hK_=>?_);simp only [zAz,zDx,zGz,↓reduceIte,reduceCtorEq,Nat.reduceEqDiff,Bool.not_true,Bool.not_false];refine hK_ _ ?_;clear hK_ K_)
  | refine zDv (by decide) ?_
  | ((try first|refine zKy rfl rfl rfl ?_|refine zIw rfl rfl ?_|refine zKx rfl rfl rfl ?_|refine zJz rfl rfl ?_);(refine zIx fun Q_ hQ_=>?_;simp (disch:=first|omega|(simp only [List.length_cons,List.length_nil,List.length_append];omega)) only [bb,bp,zKv,↓reduceIte,reduceCtorEq,Nat.reduceEqDiff,Nat.reduceLT,Nat.reduceLeDiff,Nat.reduceAdd,Nat.reduceMul,Nat.reduceSub,Nat.reduceBEq,Int.reduceToNat,cond_true,cond_false,eq_self,beq_self_eq_true,hg,zFx wf,zHx wf,zBv wf,zFw wf,zAy wf,zAx,tEvZ14,zIy,zIz,zHv,zHw,zAv wf];first|(refine zCw (Q:=Q_) (fun hp_=>?_) (fun hp_=>?_) <;> first|(exfalso;omega)|(refine hQ_ _ _ ?_;clear hQ_ Q_))|(refine zBw (Q:=Q_) (fun hp_=>?_) (fun hp_=>?_) <;> first|(exfalso;omega)|(refine hQ_ _ _ ?_;clear hQ_ Q_))|(refine hQ_ _ _ ?_;clear hQ_ Q_)))
  | (refine zHz fun K_ hK_=>?_;simp (disch:=omega) only [zFv,zAz,zHy,↓reduceIte,reduceCtorEq,Nat.reduceEqDiff,Nat.reduceLT];refine hK_ _ ?_;clear hK_ K_)))
  refine zPy (List.replicate 23 .no++[.full,.full]) (by kernel_rfl) ?_
  (repeat' (first
  | (with_reducible first|refine zJx ?_|refine zGw ?_|refine zFz ?_|refine zEv ?_|refine zFy ?_|refine zJw ?_|refine zGv ?_|refine zCz ?_|refine zDw ?_|refine zCy ?_|refine zCv ?_|refine zEx ?_|refine zDz ?_|refine zCx ?_|refine zBx ?_|refine zEz ?_|refine zEy ?_|refine zAw ?_|refine zBy ?_)
  | refine zDy ?_|refine zEw rfl ?_|refine zIv ?_|refine zJy ?_
  | ((first|refine zGx rfl rfl rfl rfl rfl fun K_ hK_=>?_|refine zGy rfl rfl rfl rfl rfl fun K_ hK_=>?_);simp only [zAz,zDx,zGz,↓reduceIte,reduceCtorEq,Nat.reduceEqDiff,Bool.not_true,Bool.not_false];refine hK_ _ ?_;clear hK_ K_)
  | refine zDv (by decide) ?_
  | ((try first|refine zKy rfl rfl rfl ?_|refine zIw rfl rfl ?_|refine zKx rfl rfl rfl ?_|refine zJz rfl rfl ?_);(refine zIx fun Q_ hQ_=>?_;simp (disch:=first|omega|(simp only [List.length_cons,List.length_nil,List.length_append];omega)) only [bb,bp,zKv,↓reduceIte,reduceCtorEq,Nat.reduceEqDiff,Nat.reduceLT,Nat.reduceLeDiff,Nat.reduceAdd,Nat.reduceMul,Nat.reduceSub,Nat.reduceBEq,Int.reduceToNat,cond_true,cond_false,eq_self,beq_self_eq_true,hg0,hbg,hmx,c1,c2,c3,zFx wf,zHx wf,zBv wf,zFw wf,zAy wf,zAx,tEvZ14,zIy,zIz,zHv,zHw,zAv wf];first|(refine zCw (Q:=Q_) (fun hp_=>?_) (fun hp_=>?_) <;> first|(exfalso;omega)|(refine hQ_ _ _ ?_;clear hQ_ Q_))|(refine zBw (Q:=Q_) (fun hp_=>?_) (fun hp_=>?_) <;> first|(exfalso;omega)|(refine hQ_ _ _ ?_;clear hQ_ Q_))|(refine hQ_ _ _ ?_;clear hQ_ Q_)))
  | (refine zHz fun K_ hK_=>?_;simp (disch:=omega) only [zFv,zAz,zHy,↓reduceIte,reduceCtorEq,Nat.reduceEqDiff,Nat.reduceLT];refine hK_ _ ?_;clear hK_ K_)))
  refine zKw _ _ rfl (retc0 (by decide) (by simp (disch:=first|omega|(simp only [List.length_cons,List.length_nil,List.length_append];omega)) only [bb,bp,zKv,↓reduceIte,reduceCtorEq,Nat.reduceEqDiff,Nat.reduceLT,Nat.reduceLeDiff,Nat.reduceAdd,Nat.reduceMul,Nat.reduceSub,Nat.reduceBEq,Int.reduceToNat,cond_true,cond_false,eq_self,beq_self_eq_true,zBv wf,tEvZ14,zIy,zIz,zHv,zHw,zAv wf];rfl)) ?_
  refine zLy rfl (by omega) ?_
  exact ⟨rfl,rfl⟩
end Go.Proofs.Ytmincoafjnnkpaa
end

section
namespace Go.Proofs.Ytmincoafjnnkpaa
open Go.Ev
set_option maxRecDepth 100000
set_option linter.unusedSimpArgs false
set_option linter.unusedVariables false
set_option maxHeartbeats 2000000
theorem tEvZ15 :type_of% (And.intro (And.intro (And.intro (And.intro (And.intro (And.intro (And.intro (@yQx) (@yQy)) (And.intro (@yQz) (@yPv))) (And.intro (And.intro (@yPw) (@yPx)) (And.intro (@ia_2) (And.intro (@ia_3) (@ia_4))))) (And.intro (And.intro (And.intro (@ia_5) (@yPy)) (And.intro (@yPz) (@yOv))) (And.intro (And.intro (@yOw) (@yOx)) (And.intro (@yOy) (And.intro (@zRv) (@yOz)))))) (And.intro (And.intro (And.intro (And.intro (@yNv) (@yNw)) (And.intro (@yNx) (@yNy))) (And.intro (And.intro (@yNz) (@yMv)) (And.intro (@yMw) (And.intro (@yMx) (@sz_2))))) (And.intro (And.intro (And.intro (@sz_3) (@sz_4)) (And.intro (@sz_5) (And.intro (@zQv) (@zYw)))) (And.intro (And.intro (@zYx) (@zYy)) (And.intro (@zYz) (And.intro (@zXv) (@zRx))))))) (And.intro (And.intro (And.intro (And.intro (And.intro (@zXw) (@zXx)) (And.intro (@zXy) (@zQx))) (And.intro (And.intro (@zXz) (@zWv)) (And.intro (@zWw) (And.intro (@zWx) (@zWy))))) (And.intro (And.intro (And.intro (@ze_2) (@ze_3)) (And.intro (@ze_4) (And.intro (@ze_5) (@zWz)))) (And.intro (And.intro (@zVv) (@zVw)) (And.intro (@zVx) (And.intro (@zVy) (@zVz)))))) (And.intro (And.intro (And.intro (And.intro (@zUv) (@zUw)) (And.intro (@zUx) (@zUy))) (And.intro (And.intro (@zUz) (@zTv)) (And.intro (@zTw) (And.intro (@zTx) (@zTy))))) (And.intro (And.intro (And.intro (@zOy) (@zOz)) (And.intro (@zNv) (And.intro (@zNw) (@zNx)))) (And.intro (And.intro (@zNy) (@zNz)) (And.intro (@zMv) (And.intro (@zMw) (@yMy)))))))) (And.intro (And.intro (And.intro (And.intro (And.intro (And.intro (@yMz) (@yLv)) (And.intro (@yLw) (@yLx))) (And.intro (And.intro (@yLy) (@yLz)) (And.intro (@yKv) (And.intro (@yKw) (@yKx))))) (And.intro (And.intro (And.intro (@yKy) (@yKz)) (And.intro (@yJv) (@yJw))) (And.intro (And.intro (@yJx) (@yJy)) (And.intro (@yJz) (And.intro (@yIv) (@yIw)))))) (And.intro (And.intro (And.intro (And.intro (@yIx) (@yIy)) (And.intro (@yIz) (@yHv))) (And.intro (And.intro (@yHw) (@yHx)) (And.intro (@yHy) (And.intro (@yHz) (@yGv))))) (And.intro (And.intro (And.intro (@yGw) (@yGx)) (And.intro (@yGy) (And.intro (@yGz) (@yFv)))) (And.intro (And.intro (@yFw) (@yFx)) (And.intro (@yFy) (And.intro (@yFz) (@yEv))))))) (And.intro (And.intro (And.intro (And.intro (And.intro (@yEw) (@yEx)) (And.intro (@yEy) (@yEz))) (And.intro (And.intro (@yDv) (@yDw)) (And.intro (@yDx) (And.intro (@yDy) (@yDz))))) (And.intro (And.intro (And.intro (@yCv) (@yCw)) (And.intro (@yCx) (And.intro (@yCy) (@yCz)))) (And.intro (And.intro (@zSz) (@yBv)) (And.intro (@yBw) (And.intro (@yBx) (@yBy)))))) (And.intro (And.intro (And.intro (And.intro (@yBz) (@yAv)) (And.intro (@yAw) (@yAx))) (And.intro (And.intro (@yAy) (@yAz)) (And.intro (@zZv) (And.intro (@zZw) (@zZx))))) (And.intro (And.intro (And.intro (@zZy) (@zZz)) (And.intro (@zQy) (And.intro (@zSv) (@zSw)))) (And.intro (And.intro (@zQw) (@zSx)) (And.intro (@zRy) (And.intro (@zSy) (@zRw))))))))):=And.intro (And.intro (And.intro (And.intro (And.intro (And.intro (And.intro (@yQx) (@yQy)) (And.intro (@yQz) (@yPv))) (And.intro (And.intro (@yPw) (@yPx)) (And.intro (@ia_2) (And.intro (@ia_3) (@ia_4))))) (And.intro (And.intro (And.intro (@ia_5) (@yPy)) (And.intro (@yPz) (@yOv))) (And.intro (And.intro (@yOw) (@yOx)) (And.intro (@yOy) (And.intro (@zRv) (@yOz)))))) (And.intro (And.intro (And.intro (And.intro (@yNv) (@yNw)) (And.intro (@yNx) (@yNy))) (And.intro (And.intro (@yNz) (@yMv)) (And.intro (@yMw) (And.intro (@yMx) (@sz_2))))) (And.intro (And.intro (And.intro (@sz_3) (@sz_4)) (And.intro (@sz_5) (And.intro (@zQv) (@zYw)))) (And.intro (And.intro (@zYx) (@zYy)) (And.intro (@zYz) (And.intro (@zXv) (@zRx))))))) (And.intro (And.intro (And.intro (And.intro (And.intro (@zXw) (@zXx)) (And.intro (@zXy) (@zQx))) (And.intro (And.intro (@zXz) (@zWv)) (And.intro (@zWw) (And.intro (@zWx) (@zWy))))) (And.intro (And.intro (And.intro (@ze_2) (@ze_3)) (And.intro (@ze_4) (And.intro (@ze_5) (@zWz)))) (And.intro (And.intro (@zVv) (@zVw)) (And.intro (@zVx) (And.intro (@zVy) (@zVz)))))) (And.intro (And.intro (And.intro (And.intro (@zUv) (@zUw)) (And.intro (@zUx) (@zUy))) (And.intro (And.intro (@zUz) (@zTv)) (And.intro (@zTw) (And.intro (@zTx) (@zTy))))) (And.intro (And.intro (And.intro (@zOy) (@zOz)) (And.intro (@zNv) (And.intro (@zNw) (@zNx)))) (And.intro (And.intro (@zNy) (@zNz)) (And.intro (@zMv) (And.intro (@zMw) (@yMy)))))))) (And.intro (And.intro (And.intro (And.intro (And.intro (And.intro (@yMz) (@yLv)) (And.intro (@yLw) (@yLx))) (And.intro (And.intro (@yLy) (@yLz)) (And.intro (@yKv) (And.intro (@yKw) (@yKx))))) (And.intro (And.intro (And.intro (@yKy) (@yKz)) (And.intro (@yJv) (@yJw))) (And.intro (And.intro (@yJx) (@yJy)) (And.intro (@yJz) (And.intro (@yIv) (@yIw)))))) (And.intro (And.intro (And.intro (And.intro (@yIx) (@yIy)) (And.intro (@yIz) (@yHv))) (And.intro (And.intro (@yHw) (@yHx)) (And.intro (@yHy) (And.intro (@yHz) (@yGv))))) (And.intro (And.intro (And.intro (@yGw) (@yGx)) (And.intro (@yGy) (And.intro (@yGz) (@yFv)))) (And.intro (And.intro (@yFw) (@yFx)) (And.intro (@yFy) (And.intro (@yFz) (@yEv))))))) (And.intro (And.intro (And.intro (And.intro (And.intro (@yEw) (@yEx)) (And.intro (@yEy) (@yEz))) (And.intro (And.intro (@yDv) (@yDw)) (And.intro (@yDx) (And.intro (@yDy) (@yDz))))) (And.intro (And.intro (And.intro (@yCv) (@yCw)) (And.intro (@yCx) (And.intro (@yCy) (@yCz)))) (And.intro (And.intro (@zSz) (@yBv)) (And.intro (@yBw) (And.intro (@yBx) (@yBy)))))) (And.intro (And.intro (And.intro (And.intro (@yBz) (@yAv)) (And.intro (@yAw) (@yAx))) (And.intro (And.intro (@yAy) (@yAz)) (And.intro (@zZv) (And.intro (@zZw) (@zZx))))) (And.intro (And.intro (And.intro (@zZy) (@zZz)) (And.intro (@zQy) (And.intro (@zSv) (@zSw)))) (And.intro (And.intro (@zQw) (@zSx)) (And.intro (@zRy) (And.intro (@zSy) (@zRw))))))))
def OkA (a:Att):Prop:=(-1≤a.at_∧a.at_≤128)∧a.L≤128
theorem best1_mem : ∀ (l:List Att) (m:Att),best1 m l=m∨best1 m l ∈ l
  | [],m=>.inl rfl
  | x :: l,m=>by
    show best1 (if m.bound<x.bound then x else m) l=m∨_
    rcases best1_mem l (if m.bound<x.bound then x else m) with h|h
    · rw [h]
      split
      · exact .inr (by rw [show best1 m (x :: l)=best1 (if m.bound<x.bound then x else m) l from rfl,h,if_pos (by assumption)];simp)
      · exact .inl rfl
    · exact .inr (List.mem_cons_of_mem _ h)
theorem bestA_mem {l:List Att} (h:l≠[]):bestA l ∈ l:=by
  match l,h with
  | m :: l,_=>
    rcases best1_mem l m with h|h
    · show best1 m l ∈ _
      rw [h];simp
    · exact List.mem_cons_of_mem _ h
theorem bestC (m:Att) (l:List Att) (hn:l.length≤1000) (hok : ∀ x ∈ m :: l,OkA x) (a:AV) (hc:CapU 4 a) (h:H) (wf:Wf h) (hs:Sl h a 4 (m :: l).length ((m :: l).flatMap attC)) :
    (om Try.prog KK).call (.fn 73 [a,.fn 74 [] []]) h = .ok (.agg (attC (bestA (m :: l)))) h:=by
  obtain ⟨f1,f2⟩:=zPv hs
  obtain ⟨b,hcut,hsb,hcb⟩:=hs.cutFrom (P:=Try.prog) (k:=1) (by simp) un_63 zQx (by omega) hc
  have hsb:Sl h b 4 l.length (l.flatMap attC):=by
    have e1:(m :: l).length - 1=l.length:=by simp
    have e2:((m :: l).flatMap attC).drop (1 * 4)=l.flatMap attC:=by rw [List.flatMap_cons];exact List.drop_left' rfl
    rw [e1,e2] at hsb
    exact hsb
  obtain ⟨f3,f4⟩:=zPv hsb
  have hlb : ∀ h',lenE Try.prog 63 b h'=some (ii (l.length:Int)):=fun h'=>hsb.len un_63
  obtain ⟨id,off,hix,hld⟩:=hs.at wf (i:=0) (by simp) zQw
  have hix:indexAddrE Try.prog 63 a (.int .i64 0)=some (.ptr id off):=hix
  have hld : ∀ l w,loadAgg id off (some 4) (X h l w)=some (.agg [uu (m.T % 2 ^ 64),uu (m.T >>> 64),ii (m.L:Int),ii m.at_]):=fun l w=>(hld l w).2
  have cst : ∀ x ∈ m :: l,∀ (J:List AO) (w:Nat),w≤h.clock+J.length→(om Try.prog KK).call (.fn 74 [.agg [uu (x.T % 2 ^ 64),uu (x.T >>> 64),ii (x.L:Int),ii x.at_]]) (X h J w) = .ok (ii x.bound) (X h J w):=fun x hx J w hw=>strong1 x _ (wf.X hw) (hok x hx).1 (hok x hx).2
  refine ySx (zMy (fn:=Try.f73) Try.func73 rfl rfl rfl rfl rfl ?_)
  simp only [zKv]
  (repeat' (first
  | (with_reducible first|refine zJx ?_|refine zGw ?_|refine zFz ?_|refine zEv ?_|refine zFy ?_|refine zJw ?_|refine zGv ?_|refine zCz ?_|refine zDw ?_|refine zCy ?_|refine zCv ?_|refine zEx ?_|refine zDz ?_|refine zCx ?_|refine zBx ?_|refine zEz ?_|refine zEy ?_|refine zAw ?_|refine zBy ?_)
  | refine zDy ?_|refine zEw rfl ?_|refine zIv ?_|refine zJy ?_
  | ((first|refine zGx rfl rfl rfl rfl rfl fun K_ hK_=>?_|refine zGy rfl rfl rfl rfl rfl fun K_ hK_=>?_);simp only [zAz,zDx,zGz,↓reduceIte,reduceCtorEq,Nat.reduceEqDiff,Bool.not_true,Bool.not_false];refine hK_ _ ?_;clear hK_ K_)
  | refine zDv (by decide) ?_
  | ((try first|refine zKy rfl rfl rfl ?_|refine zIw rfl rfl ?_|refine zKx rfl rfl rfl ?_|refine zJz rfl rfl ?_);(refine zIx fun Q_ hQ_=>?_;simp (disch:=first|omega|(simp only [List.length_cons,List.length_nil,List.length_append];omega)) only [bb,bp,zKv,↓reduceIte,reduceCtorEq,Nat.reduceEqDiff,Nat.reduceLT,Nat.reduceLeDiff,Nat.reduceAdd,Nat.reduceMul,Nat.reduceSub,Nat.reduceBEq,Int.reduceToNat,cond_true,cond_false,eq_self,beq_self_eq_true,f1,f2,f3,f4,hix,hld,hcut,hlb,zFx wf,zHx wf,zBv wf,zFw wf,zAy wf,zAx,tEvZ15,zIy,zIz,zHv,zHw,zAv wf];first|(refine zCw (Q:=Q_) (fun hp_=>?_) (fun hp_=>?_) <;> first|(exfalso;omega)|(refine hQ_ _ _ ?_;clear hQ_ Q_))|(refine zBw (Q:=Q_) (fun hp_=>?_) (fun hp_=>?_) <;> first|(exfalso;omega)|(refine hQ_ _ _ ?_;clear hQ_ Q_))|(refine hQ_ _ _ ?_;clear hQ_ Q_)))
  | (refine zHz fun K_ hK_=>?_;simp (disch:=omega) only [zFv,zAz,zHy,↓reduceIte,reduceCtorEq,Nat.reduceEqDiff,Nat.reduceLT];refine hK_ _ ?_;clear hK_ K_)))
  refine zOw (α:=Nat) (fun (i:Nat) f d h'=>i≤l.length∧f 1 = .fn 74 [] []∧f 4 = .ptr (nx h 0) 0∧f 5 = .ptr (nx h 1) 0∧f 12=b∧f 13=ii (l.length:Int)∧f 14=ii (i:Int)∧d=[] ∧
    ∃ G w,h.clock≤w∧w≤h.clock+2+G.length∧h'=X h (.cells (zBz [.int .u64 0,.int .u64 0,.int .i64 0,.int .i64 0]) 67 :: .cells (zBz (attC (best1 m (l.take i)))) 67 :: G) w) (fun i=>l.length - i) ?_ (l.length+1) 0 (by omega) ?_
  · rintro i f d h' ⟨hi,g1,g4,g5,g12,g13,g14,rfl,G,w,hw,hw2,rfl⟩
    by_cases hlt:i<l.length
    · obtain ⟨id2,off2,hix2,hld2⟩:=hsb.at wf hlt zQw
      have hld2 : ∀ J w,loadAgg id2 off2 (some 4) (X h J w)=some (.agg [uu (l[i].T % 2 ^ 64),uu (l[i].T >>> 64),ii (l[i].L:Int),ii l[i].at_]):=fun J w=>by rw [(hld2 J w).2,flat_at xAx hlt];rfl
      have e1:best1 m (l.take (i+1))=if (best1 m (l.take i)).bound<l[i].bound then l[i] else best1 m (l.take i):=by rw [List.take_succ_eq_append_getElem hlt,xUv]
      have hmem:best1 m (l.take i) ∈ m :: l:=by
        rcases best1_mem (l.take i) m with h|h
        · rw [h];simp
        · exact List.mem_cons_of_mem _ (List.mem_of_mem_take h)
      have c1:=cst _ hmem
      have c2:=cst l[i] (List.mem_cons_of_mem _ (List.getElem_mem hlt))
      generalize hB:best1 m (l.take i)=B at *
      generalize hxe:l[i]=x at *
      unfold attC
      have lx : ∀ (c1 c2:AO) w,loadAgg (nx h (G.length+1+1)) 0 (some 4) (X h (c1 :: c2 :: (G++[.cells (zBz [uu (x.T % 2 ^ 64),uu (x.T >>> 64),ii (x.L:Int),ii x.at_]) 67])) w)=some (.agg [uu (x.T % 2 ^ 64),uu (x.T >>> 64),ii (x.L:Int),ii x.at_]):=fun c1 c2 w=>by
        rw [zBv wf,show c1 :: c2 :: (G++[.cells (zBz [uu (x.T % 2 ^ 64),uu (x.T >>> 64),ii (x.L:Int),ii x.at_]) 67])=[c1,c2]++G++[.cells (zBz [uu (x.T % 2 ^ 64),uu (x.T >>> 64),ii (x.L:Int),ii x.at_]) 67] from rfl,show G.length+1+1=([c1,c2]++G).length by simp,yWw,List.getElem?_cons_zero,yWx (by decide)]
        rfl
      (repeat' (first
  | (with_reducible first|refine zJx ?_|refine zGw ?_|refine zFz ?_|refine zEv ?_|refine zFy ?_|refine zJw ?_|refine zGv ?_|refine zCz ?_|refine zDw ?_|refine zCy ?_|refine zCv ?_|refine zEx ?_|refine zDz ?_|refine zCx ?_|refine zBx ?_|refine zEz ?_|refine zEy ?_|refine zAw ?_|refine zBy ?_)
  | refine zDy ?_|refine zEw rfl ?_|refine zIv ?_|refine zJy ?_
  | ((first|refine zGx rfl rfl rfl rfl rfl fun K_ hK_=>?_|refine zGy rfl rfl rfl rfl rfl fun K_ hK_=>?_);simp only [zAz,zDx,zGz,↓reduceIte,reduceCtorEq,Nat.reduceEqDiff,Bool.not_true,Bool.not_false];refine hK_ _ ?_;clear hK_ K_)
  | refine zDv (by decide) ?_
  | ((try first|refine zKy rfl rfl rfl ?_|refine zIw rfl rfl ?_|refine zKx rfl rfl rfl ?_|refine zJz rfl rfl ?_);(refine zIx fun Q_ hQ_=>?_;simp (disch:=first|omega|(simp only [List.length_cons,List.length_nil,List.length_append];omega)) only [bb,bp,zKv,↓reduceIte,reduceCtorEq,Nat.reduceEqDiff,Nat.reduceLT,Nat.reduceLeDiff,Nat.reduceAdd,Nat.reduceMul,Nat.reduceSub,Nat.reduceBEq,Int.reduceToNat,cond_true,cond_false,eq_self,beq_self_eq_true,f1,f2,f3,f4,g1,g4,g5,g12,g13,g14,hix2,hld2,hlb,zFx wf,zHx wf,zBv wf,zFw wf,zAy wf,zAx,tEvZ15,zIy,zIz,zHv,zHw,zAv wf];first|(refine zCw (Q:=Q_) (fun hp_=>?_) (fun hp_=>?_) <;> first|(exfalso;omega)|(refine hQ_ _ _ ?_;clear hQ_ Q_))|(refine zBw (Q:=Q_) (fun hp_=>?_) (fun hp_=>?_) <;> first|(exfalso;omega)|(refine hQ_ _ _ ?_;clear hQ_ Q_))|(refine hQ_ _ _ ?_;clear hQ_ Q_)))
  | (refine zHz fun K_ hK_=>?_;simp (disch:=omega) only [zFv,zAz,zHy,↓reduceIte,reduceCtorEq,Nat.reduceEqDiff,Nat.reduceLT];refine hK_ _ ?_;clear hK_ K_)))
      refine zPy [.no,.no,.no,.no,.no,.full,.full] (by kernel_rfl) ?_
      (repeat' (first
  | (with_reducible first|refine zJx ?_|refine zGw ?_|refine zFz ?_|refine zEv ?_|refine zFy ?_|refine zJw ?_|refine zGv ?_|refine zCz ?_|refine zDw ?_|refine zCy ?_|refine zCv ?_|refine zEx ?_|refine zDz ?_|refine zCx ?_|refine zBx ?_|refine zEz ?_|refine zEy ?_|refine zAw ?_|refine zBy ?_)
  | refine zDy ?_|refine zEw rfl ?_|refine zIv ?_|refine zJy ?_
  | ((first|refine zGx rfl rfl rfl rfl rfl fun K_ hK_=>?_|refine zGy rfl rfl rfl rfl rfl fun K_ hK_=>?_);simp only [zAz,zDx,zGz,↓reduceIte,reduceCtorEq,Nat.reduceEqDiff,Bool.not_true,Bool.not_false];refine hK_ _ ?_;clear hK_ K_)
  | refine zDv (by decide) ?_
  | ((try first|refine zKy rfl rfl rfl ?_|refine zIw rfl rfl ?_|refine zKx rfl rfl rfl ?_|refine zJz rfl rfl ?_);(refine zIx fun Q_ hQ_=>?_;simp (disch:=first|omega|(simp only [List.length_cons,List.length_nil,List.length_append];omega)) only [bb,bp,zKv,↓reduceIte,reduceCtorEq,Nat.reduceEqDiff,Nat.reduceLT,Nat.reduceLeDiff,Nat.reduceAdd,Nat.reduceMul,Nat.reduceSub,Nat.reduceBEq,Int.reduceToNat,cond_true,cond_false,eq_self,beq_self_eq_true,f1,f2,f3,f4,g1,g4,g5,g12,g13,g14,hix2,hld2,hlb,lx,c1,c2,xRy,zFx wf,zHx wf,zBv wf,zFw wf,zAy wf,tEvZ15,zIy,zIz,zHv,zHw,zAv wf];first|(refine zCw (Q:=Q_) (fun hp_=>?_) (fun hp_=>?_) <;> first|(exfalso;omega)|(refine hQ_ _ _ ?_;clear hQ_ Q_))|(refine zBw (Q:=Q_) (fun hp_=>?_) (fun hp_=>?_) <;> first|(exfalso;omega)|(refine hQ_ _ _ ?_;clear hQ_ Q_))|(refine hQ_ _ _ ?_;clear hQ_ Q_)))
  | (refine zHz fun K_ hK_=>?_;simp (disch:=omega) only [zFv,zAz,zHy,↓reduceIte,reduceCtorEq,Nat.reduceEqDiff,Nat.reduceLT];refine hK_ _ ?_;clear hK_ K_)))
      · have e2:best1 m (l.take (i+1))=x:=by rw [e1,if_pos (by assumption)]
        refine zJv (i+1) (by omega) ⟨hlt,by simp only [zAz,↓reduceIte,reduceCtorEq,Nat.reduceEqDiff];exact g1,by simp only [zAz,↓reduceIte,reduceCtorEq,Nat.reduceEqDiff];exact g4,by simp only [zAz,↓reduceIte,reduceCtorEq,Nat.reduceEqDiff];exact g5,by simp only [zAz,↓reduceIte,reduceCtorEq,Nat.reduceEqDiff];exact g12,by simp only [zAz,↓reduceIte,reduceCtorEq,Nat.reduceEqDiff];exact g13,by simp only [zAz,↓reduceIte,reduceCtorEq,Nat.reduceEqDiff];rfl,rfl,G++[.cells (zBz [uu (x.T % 2 ^ 64),uu (x.T >>> 64),ii (x.L:Int),ii x.at_]) 67],_,?_,?_,by rw [e2]⟩
        · omega
        · simp only [List.length_append,List.length_cons,List.length_nil];omega
      · have e2:best1 m (l.take (i+1))=B:=by rw [e1,if_neg (by assumption)]
        refine zJv (i+1) (by omega) ⟨hlt,by simp only [zAz,↓reduceIte,reduceCtorEq,Nat.reduceEqDiff];exact g1,by simp only [zAz,↓reduceIte,reduceCtorEq,Nat.reduceEqDiff];exact g4,by simp only [zAz,↓reduceIte,reduceCtorEq,Nat.reduceEqDiff];exact g5,by simp only [zAz,↓reduceIte,reduceCtorEq,Nat.reduceEqDiff];exact g12,by simp only [zAz,↓reduceIte,reduceCtorEq,Nat.reduceEqDiff];exact g13,by simp only [zAz,↓reduceIte,reduceCtorEq,Nat.reduceEqDiff];rfl,rfl,G++[.cells (zBz [uu (x.T % 2 ^ 64),uu (x.T >>> 64),ii (x.L:Int),ii x.at_]) 67],_,?_,?_,by rw [e2]⟩
        · omega
        · simp only [List.length_append,List.length_cons,List.length_nil];omega
    · have:i=l.length:=by omega
      subst this
      rw [List.take_length,show bestA (m :: l)=best1 m l from rfl]
      unfold attC
      (repeat' (first
  | (with_reducible first|refine zJx ?_|refine zGw ?_|refine zFz ?_|refine zEv ?_|refine zFy ?_|refine zJw ?_|refine zGv ?_|refine zCz ?_|refine zDw ?_|refine zCy ?_|refine zCv ?_|refine zEx ?_|refine zDz ?_|refine zCx ?_|refine zBx ?_|refine zEz ?_|refine zEy ?_|refine zAw ?_|refine zBy ?_)
  | refine zDy ?_|refine zEw rfl ?_|refine zIv ?_|refine zJy ?_
  | ((first|refine zGx rfl rfl rfl rfl rfl fun K_ hK_=>?_|refine zGy rfl rfl rfl rfl rfl fun K_ hK_=>?_);simp only [zAz,zDx,zGz,↓reduceIte,reduceCtorEq,Nat.reduceEqDiff,Bool.not_true,Bool.not_false];refine hK_ _ ?_;clear hK_ K_)
  | refine zDv (by decide) ?_
  | ((try first|refine zKy rfl rfl rfl ?_|refine zIw rfl rfl ?_|refine zKx rfl rfl rfl ?_|refine zJz rfl rfl ?_);(refine zIx fun Q_ hQ_=>?_;simp (disch:=first|omega|(simp only [List.length_cons,List.length_nil,List.length_append];omega)) only [bb,bp,zKv,↓reduceIte,reduceCtorEq,Nat.reduceEqDiff,Nat.reduceLT,Nat.reduceLeDiff,Nat.reduceAdd,Nat.reduceMul,Nat.reduceSub,Nat.reduceBEq,Int.reduceToNat,cond_true,cond_false,eq_self,beq_self_eq_true,f1,f2,f3,f4,g1,g4,g5,g12,g13,g14,hlb,zFx wf,zHx wf,zBv wf,zFw wf,zAy wf,zAx,tEvZ15,zIy,zIz,zHv,zHw,zAv wf];first|(refine zCw (Q:=Q_) (fun hp_=>?_) (fun hp_=>?_) <;> first|(exfalso;omega)|(refine hQ_ _ _ ?_;clear hQ_ Q_))|(refine zBw (Q:=Q_) (fun hp_=>?_) (fun hp_=>?_) <;> first|(exfalso;omega)|(refine hQ_ _ _ ?_;clear hQ_ Q_))|(refine hQ_ _ _ ?_;clear hQ_ Q_)))
  | (refine zHz fun K_ hK_=>?_;simp (disch:=omega) only [zFv,zAz,zHy,↓reduceIte,reduceCtorEq,Nat.reduceEqDiff,Nat.reduceLT];refine hK_ _ ?_;clear hK_ K_)))
      refine zKw _ _ rfl (retc0 (by decide) (by simp (disch:=first|omega|(simp only [List.length_cons,List.length_nil,List.length_append];omega)) only [bb,bp,zKv,↓reduceIte,reduceCtorEq,Nat.reduceEqDiff,Nat.reduceLT,Nat.reduceLeDiff,Nat.reduceAdd,Nat.reduceMul,Nat.reduceSub,Nat.reduceBEq,Int.reduceToNat,cond_true,cond_false,eq_self,beq_self_eq_true,g4,zBv wf,tEvZ15,zIy,zIz,zHv,zHw,zAv wf];rfl)) ?_
      refine zLy rfl (by omega) ?_
      exact ⟨rfl,rfl⟩
  · exact ⟨by omega,rfl,rfl,rfl,rfl,rfl,rfl,rfl,[],h.clock,by omega,by omega,by rw [List.take_zero];rfl⟩
theorem strongest (l:List Att) (hne:l≠[]) (hn:l.length≤1000) (hok : ∀ x ∈ l,OkA x) (a:AV) (hc:CapU 4 a) (h:H) (wf:Wf h) (hs:Sl h a 4 l.length (l.flatMap attC)) :
    (om Try.prog KK).call (.fn 55 [a]) h = .ok (.agg (attC (bestA l))) h:=by
  obtain ⟨f1,f2⟩:=zPv hs
  have c1 : ∀ (J:List AO) (w:Nat),w≤h.clock+J.length→(om Try.prog KK).call (.fn 73 [a,.fn 74 [] []]) (X h J w) = .ok (.agg [uu ((bestA l).T % 2 ^ 64),uu ((bestA l).T >>> 64),ii ((bestA l).L:Int),ii (bestA l).at_]) (X h J w):=fun J w hw=>by
    match l,hne with
    | m :: l,_=>exact bestC m l (by simp at hn;omega) hok a hc _ (wf.X hw) (hs.up wf J w)
  refine ySx (zMy (fn:=Try.f55) Try.func55 rfl rfl rfl rfl rfl ?_)
  simp only [zKv]
  unfold attC
  (repeat' (first
  | (with_reducible first|refine zJx ?_|refine zGw ?_|refine zFz ?_|refine zEv ?_|refine zFy ?_|refine zJw ?_|refine zGv ?_|refine zCz ?_|refine zDw ?_|refine zCy ?_|refine zCv ?_|refine zEx ?_|refine zDz ?_|refine zCx ?_|refine zBx ?_|refine zEz ?_|refine zEy ?_|refine zAw ?_|refine zBy ?_)
  | refine zDy ?_|refine zEw rfl ?_|refine zIv ?_|refine zJy ?_
  | ((first|refine zGx rfl rfl rfl rfl rfl fun K_ hK_=>?_|refine zGy rfl rfl rfl rfl rfl fun K_ hK_=>?_);simp only [zAz,zDx,zGz,↓reduceIte,reduceCtorEq,Nat.reduceEqDiff,Bool.not_true,Bool.not_false];refine hK_ _ ?_;clear hK_ K_)
  | refine zDv (by decide) ?_
  | ((try first|refine zKy rfl rfl rfl ?_|refine zIw rfl rfl ?_|refine zKx rfl rfl rfl ?_|refine zJz rfl rfl ?_);(refine zIx fun Q_ hQ_=>?_;simp (disch:=first|omega|(simp only [List.length_cons,List.length_nil,List.length_append];omega)) only [bb,bp,zKv,↓reduceIte,reduceCtorEq,Nat.reduceEqDiff,Nat.reduceLT,Nat.reduceLeDiff,Nat.reduceAdd,Nat.reduceMul,Nat.reduceSub,Nat.reduceBEq,Int.reduceToNat,cond_true,cond_false,eq_self,beq_self_eq_true,f1,f2,zFx wf,zHx wf,zBv wf,zFw wf,zAy wf,zAx,tEvZ15,zIy,zIz,zHv,zHw,zAv wf];first|(refine zCw (Q:=Q_) (fun hp_=>?_) (fun hp_=>?_) <;> first|(exfalso;omega)|(refine hQ_ _ _ ?_;clear hQ_ Q_))|(refine zBw (Q:=Q_) (fun hp_=>?_) (fun hp_=>?_) <;> first|(exfalso;omega)|(refine hQ_ _ _ ?_;clear hQ_ Q_))|(refine hQ_ _ _ ?_;clear hQ_ Q_)|(refine zOv (c1 _ _ (by first|omega|(simp only [List.length_append,List.length_cons,List.length_nil];omega))) ?_;refine hQ_ _ _ ?_;clear hQ_ Q_)))
  | (refine zHz fun K_ hK_=>?_;simp (disch:=omega) only [zFv,zAz,zHy,↓reduceIte,reduceCtorEq,Nat.reduceEqDiff,Nat.reduceLT];refine hK_ _ ?_;clear hK_ K_)))
  refine zKw _ _ rfl (retc0 (by decide) (by simp (disch:=first|omega|(simp only [List.length_cons,List.length_nil,List.length_append];omega)) only [bb,bp,zKv,↓reduceIte,reduceCtorEq,Nat.reduceEqDiff,Nat.reduceLT,Nat.reduceLeDiff,Nat.reduceAdd,Nat.reduceMul,Nat.reduceSub,Nat.reduceBEq,Int.reduceToNat,cond_true,cond_false,eq_self,beq_self_eq_true,zBv wf,tEvZ15,zIy,zIz,zHv,zHw,zAv wf];rfl)) ?_
  refine zLy rfl (by omega) ?_
  exact ⟨rfl,rfl⟩
end Go.Proofs.Ytmincoafjnnkpaa
end

section
namespace Go.Ev
section
variable {P:Program}
end
end Go.Ev
end

section
namespace Go.Ev
section
variable {P:Program}
theorem append_full {h0:H} (wf:Wf h0) {t e size bytes k len:Nat} {z x:AV} (hu:P.underlying t=some (.slice e)) (hz:sizeE P e=some size) (E:El P e size bytes z) {n:Nat} {new old:List AV} {l:List AO} {w e':Nat} (hn:len+n≤10000000) (hn0:n≠0) (hb:bytes≤100000)
    (hk:l[k]? = some (.cells (zBz old) e')) (ho:old.length=len * size) (hs:srcCells (X h0 l w) size x=some (n,new)) (hc:new.length=n * size):appendE P t (.sl (nx h0 k) 0 len (some len) size) x (X h0 l w) = .ok (.sl (nx h0 l.length) 0 (len+n) none size) (X h0 (l++[.cells (zBz (old++new)) e]) w):=by
  unfold appendE
  rw [hu];dsimp only;rw [hz];dsimp only;rw [hs];dsimp only
  rw [show Nat.beq n 0=false from by cases hb:Nat.beq n 0 with|false=>rfl|true=>exact absurd (Nat.eq_of_beq_eq_true hb) hn0]
  show appendSome P e size n new (.sl (nx h0 k) 0 len (some len) size) (X h0 l w)=_
  unfold appendSome
  dsimp only
  rw [show Nat.beq size size=true from Nat.beq_refl size]
  dsimp only [cond]
  rw [show Nat.ble (Nat.add len n) len=false from by
    cases hb:Nat.ble (Nat.add len n) len with
    | false=>rfl
    | true=>exact absurd (Nat.le_of_ble_eq_true hb) (by show ¬ len+n≤len;omega)]
  dsimp only [cond]
  rw [show readCells (X h0 l w) (nx h0 k) 0 (len * size)=some old from by
    unfold readCells
    rw [zPx wf,hk]
    show readM _ (len * size) 0=some old
    rw [yZy _ _ _ (by omega),List.drop_zero,List.take_of_length_le (by omega)]]
  dsimp only
  rw [zLw,show Nat.add len n=len+n from rfl]
  exact growE_X wf E hn hb (by rw [List.length_append,ho,hc,Nat.add_mul])
def LineV (h:H) (L:List AO) (e:TypeId) (lv:AV) (cs:List AV):Prop:=∃ idx c,lv = .sl (nx h idx) 0 cs.length c 1∧L[idx]? = some (.cells (zBz cs) e)∧(c=none∨c=some cs.length)
theorem LineV.flat {h:H} {L:List AO} {e:TypeId} {lv:AV} {cs:List AV} (x:LineV h L e lv cs):AV.cells lv=[lv]∧oneB lv=true:=by obtain ⟨_,_,rfl,_⟩:=x;exact ⟨rfl,rfl⟩
theorem LineV.resz {h:H} {L:List AO} {e:TypeId} {lv:AV} {cs:List AV} (x:LineV h L e lv cs) {t:TypeId} (hu:P.underlying t=some (.slice e)) (hz:sizeE P e=some 1):reszT P t lv=lv:=by
  obtain ⟨_,c,rfl,_,hc⟩:=x
  cases c with
  | none=>exact yUw
  | some c=>exact yUx hu hz
theorem LineV.sl {h:H} (wf:Wf h) {L:List AO} {e:TypeId} {lv:AV} {cs:List AV} (x:LineV h L e lv cs) (w:Nat):Sl (X h L w) lv 1 cs.length cs:=by
  obtain ⟨idx,c,rfl,hk,hc⟩:=x
  exact Sl.new wf (by rw [Nat.mul_one]) hk
theorem LineV.app {h:H} (wf:Wf h) {L:List AO} {e bytes:Nat} {z lv v:AV} {cs:List AV} (x:LineV h L e lv cs) {t:TypeId} (hu:P.underlying t=some (.slice e)) (hz:sizeE P e=some 1) (E:El P e 1 bytes z) (hn:cs.length≤1000000) (hb:bytes≤100000) (hv:oneB v=true) (c:Nat) (w:Nat) (hw:h.clock≤w) :
    ∃ lv' L' o w',Chg e L L'∧LineV h (L'++[.cells (zBz [v]) e,o]) e lv' (cs++[v])∧h.clock≤w'∧w'≤w∧appendE P t lv (.sl (nx h L.length) 0 1 (some c) 1) (X h (L++[.cells (zBz [v]) e]) w) = .ok lv' (X h (L'++[.cells (zBz [v]) e,o]) w'):=by
  obtain ⟨idx,c0,rfl,hk,hc⟩:=x
  have hkl:=zLv hk
  have hk':(L++[.cells (zBz [v]) e])[idx]? = some (.cells (zBz cs) e):=by rw [List.getElem?_append_left hkl];exact hk
  have hs:srcCells (X h (L++[.cells (zBz [v]) e]) w) 1 (.sl (nx h L.length) 0 1 (some c) 1)=some (1,[v]):=src_new (e:=e) wf (by rw [yWw];rfl) rfl
  have hlen:(L++[AO.cells (zBz [v]) e]).length=L.length+1:=by rw [List.length_append];rfl
  rcases hc with rfl|rfl
  · refine ⟨_,L.set idx .dead,.cells (zBz (cs++[v])) e,min (h.clock+idx) w,⟨by simp,fun k o hk2 hno=>?_⟩,⟨L.length+1,none,rfl,?_,.inl rfl⟩,?_,?_,?_⟩
    rotate_right 1
    · rw [yWy wf hu hz E (by omega) (by decide) hb hk' (by rw [Nat.mul_one]) hs rfl (by rw [yUy,hv];rfl),hlen,List.set_append_left _ _ hkl,List.append_assoc,List.length_append]
      rfl
    · have hne:idx≠k:=fun e1=>by
        subst e1
        rw [hk] at hk2
        cases hk2
        exact hno _ rfl
      rw [List.getElem?_set_ne hne];exact hk2
    · rw [List.getElem?_append_right (by simp),List.length_set,Nat.add_sub_cancel_left];rfl
    · omega
    · omega
  · refine ⟨_,L,.cells (zBz (cs++[v])) e,w,Chg.rfl' _,⟨L.length+1,none,rfl,?_,.inl rfl⟩,?_,?_,?_⟩
    rotate_right 1
    · rw [append_full wf hu hz E (by omega) (by decide) hb hk' (by rw [Nat.mul_one]) hs rfl,hlen,List.append_assoc,List.length_append]
      rfl
    · rw [List.getElem?_append_right (by omega),Nat.add_sub_cancel_left];rfl
    · exact hw
    · exact Nat.le_refl _
end
end Go.Ev
namespace Go.Ev
theorem LineV.keep {h:H} {L L':List AO} {e:TypeId} {lv:AV} {cs:List AV} (x:LineV h L e lv cs) (k:Keep e L L'):LineV h L' e lv cs:=by
  obtain ⟨idx,c,rfl,hk,hc⟩:=x
  exact ⟨idx,c,rfl,k _ _ hk,hc⟩
end Go.Ev
namespace Go.Ev
theorem LineV.down {h:H} {G M:List AO} {w:Nat} {e:TypeId} {lv:AV} {cs:List AV} (x:LineV (X h G w) M e lv cs):LineV h (G++M) e lv cs:=by
  obtain ⟨idx,c,rfl,hk,hc⟩:=x
  exact ⟨G.length+idx,c,by rw [nx_X],by rw [List.getElem?_append_right (by omega),Nat.add_sub_cancel_left];exact hk,hc⟩
def LV (h:H) (G:List AO) (vs:List AV) (ls:List (List Int)):Prop:=vs.length=ls.length ∧ ∀ (i:Nat) (u:AV) (l:List Int),vs[i]? = some u→ls[i]? = some l→LineV h G 2 u (l.map fun n=>.int .i64 n)
theorem LV.nil (h:H) (G:List AO):LV h G [] []:=⟨rfl,fun i u l h1 _=>by simp at h1⟩
theorem LV.append {h:H} {G:List AO} {vs us:List AV} {ls ms:List (List Int)} (x:LV h G vs ls) (y:LV h G us ms):LV h G (vs++us) (ls++ms):=by
  refine ⟨by rw [List.length_append,List.length_append,x.1,y.1],fun i u l h1 h2=>?_⟩
  rcases Nat.lt_or_ge i vs.length with hi|hi
  · rw [List.getElem?_append_left hi] at h1
    rw [List.getElem?_append_left (by rw [← x.1];exact hi)] at h2
    exact x.2 i u l h1 h2
  · rw [List.getElem?_append_right hi] at h1
    rw [List.getElem?_append_right (by rw [← x.1];exact hi),← x.1] at h2
    exact y.2 _ u l h1 h2
theorem LV.all {h:H} {G:List AO} {vs:List AV} {ls:List (List Int)} (x:LV h G vs ls):allOne vs=true:=by
  have key : ∀ vs:List AV,(∀ u ∈ vs,oneB u=true)→allOne vs=true:=by
    intro vs
    induction vs with
    | nil=>intro _;rfl
    | cons u vs ih=>intro hu;rw [yUy,hu u (by simp),ih fun w hw=>hu w (by simp [hw])];rfl
  refine key vs fun u hu=>?_
  obtain ⟨i,hi⟩:=List.getElem?_of_mem hu
  have hl:=zLv hi
  exact (x.2 i u _ hi (List.getElem?_eq_getElem (by rw [← x.1];exact hl))).flat.2
theorem LV.mono {h:H} {G G':List AO} {vs:List AV} {ls:List (List Int)} (x:LV h G vs ls) (k : ∀ u cs,LineV h G 2 u cs→LineV h G' 2 u cs):LV h G' vs ls:=⟨x.1,fun i u l h1 h2=>k _ _ (x.2 i u l h1 h2)⟩
theorem LineV.more {h:H} {L:List AO} {e:TypeId} {lv:AV} {cs:List AV} (x:LineV h L e lv cs) (M:List AO):LineV h (L++M) e lv cs:=x.keep (Keep.more _ _)
end Go.Ev
namespace Go.Ev
end Go.Ev
end

section
namespace Go.Proofs.Ytmincoafjnnkpaa
open Go.Ev
set_option maxRecDepth 100000
set_option linter.unusedSimpArgs false
set_option linter.unusedVariables false
set_option maxHeartbeats 2000000
theorem tEvZ16 :type_of% (And.intro (And.intro (And.intro (And.intro (And.intro (And.intro (And.intro (@yQx) (@yQy)) (And.intro (@yQz) (@yPv))) (And.intro (And.intro (@yPw) (@yPx)) (And.intro (@ia_2) (And.intro (@ia_3) (@ia_4))))) (And.intro (And.intro (And.intro (@ia_5) (@yPy)) (And.intro (@yPz) (@yOv))) (And.intro (And.intro (@yOw) (@yOx)) (And.intro (@yOy) (And.intro (@zRv) (@yOz)))))) (And.intro (And.intro (And.intro (And.intro (@yNv) (@yNw)) (And.intro (@yNx) (@yNy))) (And.intro (And.intro (@yNz) (@yMv)) (And.intro (@yMw) (And.intro (@yMx) (@sz_2))))) (And.intro (And.intro (And.intro (@sz_3) (@sz_4)) (And.intro (@sz_5) (And.intro (@zQv) (@zYw)))) (And.intro (And.intro (@zYx) (@zYy)) (And.intro (@zYz) (And.intro (@zXv) (@zRx))))))) (And.intro (And.intro (And.intro (And.intro (And.intro (@zXw) (@zXx)) (And.intro (@zXy) (@zQx))) (And.intro (And.intro (@zXz) (@zWv)) (And.intro (@zWw) (And.intro (@zWx) (@zWy))))) (And.intro (And.intro (And.intro (@ze_2) (@ze_3)) (And.intro (@ze_4) (And.intro (@ze_5) (@zWz)))) (And.intro (And.intro (@zVv) (@zVw)) (And.intro (@zVx) (And.intro (@zVy) (@zVz)))))) (And.intro (And.intro (And.intro (And.intro (@zUv) (@zUw)) (And.intro (@zUx) (@zUy))) (And.intro (And.intro (@zUz) (@zTv)) (And.intro (@zTw) (And.intro (@zTx) (@zTy))))) (And.intro (And.intro (And.intro (@zOy) (@zOz)) (And.intro (@zNv) (And.intro (@zNw) (@zNx)))) (And.intro (And.intro (@zNy) (@zNz)) (And.intro (@zMv) (And.intro (@zMw) (@yMy)))))))) (And.intro (And.intro (And.intro (And.intro (And.intro (And.intro (@yMz) (@yLv)) (And.intro (@yLw) (@yLx))) (And.intro (And.intro (@yLy) (@yLz)) (And.intro (@yKv) (And.intro (@yKw) (@yKx))))) (And.intro (And.intro (And.intro (@yKy) (@yKz)) (And.intro (@yJv) (@yJw))) (And.intro (And.intro (@yJx) (@yJy)) (And.intro (@yJz) (And.intro (@yIv) (@yIw)))))) (And.intro (And.intro (And.intro (And.intro (@yIx) (@yIy)) (And.intro (@yIz) (@yHv))) (And.intro (And.intro (@yHw) (@yHx)) (And.intro (@yHy) (And.intro (@yHz) (@yGv))))) (And.intro (And.intro (And.intro (@yGw) (@yGx)) (And.intro (@yGy) (And.intro (@yGz) (@yFv)))) (And.intro (And.intro (@yFw) (@yFx)) (And.intro (@yFy) (And.intro (@yFz) (@yEv))))))) (And.intro (And.intro (And.intro (And.intro (And.intro (@yEw) (@yEx)) (And.intro (@yEy) (@yEz))) (And.intro (And.intro (@yDv) (@yDw)) (And.intro (@yDx) (And.intro (@yDy) (@yDz))))) (And.intro (And.intro (And.intro (@yCv) (@yCw)) (And.intro (@yCx) (And.intro (@yCy) (@yCz)))) (And.intro (And.intro (@zSz) (@yBv)) (And.intro (@yBw) (And.intro (@yBx) (@yBy)))))) (And.intro (And.intro (And.intro (And.intro (@yBz) (@yAv)) (And.intro (@yAw) (@yAx))) (And.intro (And.intro (@yAy) (@yAz)) (And.intro (@zZv) (And.intro (@zZw) (@zZx))))) (And.intro (And.intro (And.intro (@zZy) (@zZz)) (And.intro (@zQy) (And.intro (@zSv) (@zSw)))) (And.intro (And.intro (@zQw) (@zSx)) (And.intro (@zRy) (And.intro (@zSy) (@zRw))))))))):=And.intro (And.intro (And.intro (And.intro (And.intro (And.intro (And.intro (@yQx) (@yQy)) (And.intro (@yQz) (@yPv))) (And.intro (And.intro (@yPw) (@yPx)) (And.intro (@ia_2) (And.intro (@ia_3) (@ia_4))))) (And.intro (And.intro (And.intro (@ia_5) (@yPy)) (And.intro (@yPz) (@yOv))) (And.intro (And.intro (@yOw) (@yOx)) (And.intro (@yOy) (And.intro (@zRv) (@yOz)))))) (And.intro (And.intro (And.intro (And.intro (@yNv) (@yNw)) (And.intro (@yNx) (@yNy))) (And.intro (And.intro (@yNz) (@yMv)) (And.intro (@yMw) (And.intro (@yMx) (@sz_2))))) (And.intro (And.intro (And.intro (@sz_3) (@sz_4)) (And.intro (@sz_5) (And.intro (@zQv) (@zYw)))) (And.intro (And.intro (@zYx) (@zYy)) (And.intro (@zYz) (And.intro (@zXv) (@zRx))))))) (And.intro (And.intro (And.intro (And.intro (And.intro (@zXw) (@zXx)) (And.intro (@zXy) (@zQx))) (And.intro (And.intro (@zXz) (@zWv)) (And.intro (@zWw) (And.intro (@zWx) (@zWy))))) (And.intro (And.intro (And.intro (@ze_2) (@ze_3)) (And.intro (@ze_4) (And.intro (@ze_5) (@zWz)))) (And.intro (And.intro (@zVv) (@zVw)) (And.intro (@zVx) (And.intro (@zVy) (@zVz)))))) (And.intro (And.intro (And.intro (And.intro (@zUv) (@zUw)) (And.intro (@zUx) (@zUy))) (And.intro (And.intro (@zUz) (@zTv)) (And.intro (@zTw) (And.intro (@zTx) (@zTy))))) (And.intro (And.intro (And.intro (@zOy) (@zOz)) (And.intro (@zNv) (And.intro (@zNw) (@zNx)))) (And.intro (And.intro (@zNy) (@zNz)) (And.intro (@zMv) (And.intro (@zMw) (@yMy)))))))) (And.intro (And.intro (And.intro (And.intro (And.intro (And.intro (@yMz) (@yLv)) (And.intro (@yLw) (@yLx))) (And.intro (And.intro (@yLy) (@yLz)) (And.intro (@yKv) (And.intro (@yKw) (@yKx))))) (And.intro (And.intro (And.intro (@yKy) (@yKz)) (And.intro (@yJv) (@yJw))) (And.intro (And.intro (@yJx) (@yJy)) (And.intro (@yJz) (And.intro (@yIv) (@yIw)))))) (And.intro (And.intro (And.intro (And.intro (@yIx) (@yIy)) (And.intro (@yIz) (@yHv))) (And.intro (And.intro (@yHw) (@yHx)) (And.intro (@yHy) (And.intro (@yHz) (@yGv))))) (And.intro (And.intro (And.intro (@yGw) (@yGx)) (And.intro (@yGy) (And.intro (@yGz) (@yFv)))) (And.intro (And.intro (@yFw) (@yFx)) (And.intro (@yFy) (And.intro (@yFz) (@yEv))))))) (And.intro (And.intro (And.intro (And.intro (And.intro (@yEw) (@yEx)) (And.intro (@yEy) (@yEz))) (And.intro (And.intro (@yDv) (@yDw)) (And.intro (@yDx) (And.intro (@yDy) (@yDz))))) (And.intro (And.intro (And.intro (@yCv) (@yCw)) (And.intro (@yCx) (And.intro (@yCy) (@yCz)))) (And.intro (And.intro (@zSz) (@yBv)) (And.intro (@yBw) (And.intro (@yBx) (@yBy)))))) (And.intro (And.intro (And.intro (And.intro (@yBz) (@yAv)) (And.intro (@yAw) (@yAx))) (And.intro (And.intro (@yAy) (@yAz)) (And.intro (@zZv) (And.intro (@zZw) (@zZx))))) (And.intro (And.intro (And.intro (@zZy) (@zZz)) (And.intro (@zQy) (And.intro (@zSv) (@zSw)))) (And.intro (And.intro (@zQw) (@zSx)) (And.intro (@zRy) (And.intro (@zSy) (@zRw))))))))
theorem rettc {P:Program} {h:H} {a t u:Nat} {f:TF} {v:AV} (hu:u<384) (ha:a<384) (hl:loadE P t (f a) h=some v):retE P [.tmp u,.cell a t] (mkM f) h = .ok (.tup [f u,v]) h:=by
  simp only [retE,resultsE,resultE,xFy _ _ ha,xFy _ _ hu,hl]
def AttsAt (h:H) (M:List AO) (idx:Nat) (l:List Att) (v:AV):Prop:=∃ cap,v = .sl (nx h idx) 0 l.length cap 4∧M[idx]? = some (.cells (zBz (l.flatMap attC)) 67)∧(cap=none∨cap=some l.length)
theorem AttsAt.sl {h:H} (wf:Wf h) {M:List AO} {idx:Nat} {l:List Att} {v:AV} (x:AttsAt h M idx l v) (w:Nat):Sl (X h M w) v 4 l.length (l.flatMap attC):=by
  obtain ⟨cap,rfl,hM,_⟩:=x
  exact Sl.new wf (wAw xAx l) hM
theorem AttsAt.capU {h:H} {M:List AO} {idx:Nat} {l:List Att} {v:AV} (x:AttsAt h M idx l v):CapU 4 v:=by
  obtain ⟨cap,rfl,hM,rfl|rfl⟩:=x
  · exact capu_none
  · exact capu_some (Nat.le_refl _)
theorem AttsAt.more {h:H} {M:List AO} {idx:Nat} {l:List Att} {v:AV} (x:AttsAt h M idx l v) (J:List AO):AttsAt h (M++J) idx l v:=by
  obtain ⟨cap,rfl,hM,hc⟩:=x
  exact ⟨cap,rfl,by rw [List.getElem?_append_left (zLv hM)];exact hM,hc⟩
theorem AttsAt.app {h:H} (wf:Wf h) {M:List AO} {idx:Nat} {l:List Att} {v:AV} (x:AttsAt h M idx l v) (a:Att) (hn:l.length≤1000) :
    ∃ v' M',AttsAt h M' (M.length+1) (l++[a]) v'∧M'.length=M.length+2∧(∀ k o,k≠idx→M[k]? = some o→M'[k]? = some o) ∧ ∀ w,∃ w',min (h.clock+idx) w≤w'∧w'≤w ∧
      appendE Try.prog 63 (reszT Try.prog 63 v) (.sl (nx h M.length) 0 1 (some 1) 4) (X h (M++[.cells (zBz (attC a)) 67]) w) = .ok v' (X h M' w'):=by
  obtain ⟨cap,rfl,hM,hc⟩:=x
  have hlt:=zLv hM
  have hM':(M++[AO.cells (zBz (attC a)) 67])[idx]? = some (.cells (zBz (l.flatMap attC)) 67):=by rw [List.getElem?_append_left hlt];exact hM
  have hs : ∀ w,srcCells (X h (M++[.cells (zBz (attC a)) 67]) w) 4 (.sl (nx h M.length) 0 1 (some 1) 4)=some (1,attC a):=fun w=>src_new (e:=67) wf (by rw [yWw];rfl) rfl
  have hlen:(M++[AO.cells (zBz (attC a)) 67]).length=M.length+1:=by rw [List.length_append];rfl
  have hfm:(l++[a]).flatMap attC=l.flatMap attC++attC a:=by rw [List.flatMap_append];simp
  rcases hc with rfl|rfl
  · have happ:=fun w=>yWy (P:=Try.prog) (t:=63) (w:=w) wf un_63 zQx el_67 (n:=1) (by omega) (by decide) (by decide) hM' (wAw xAx l) (hs w) rfl rfl
    simp only [hlen] at happ
    refine ⟨_,_,⟨none,by rw [List.length_append];try rfl,?_,.inl rfl⟩,?_,?_,fun w=>⟨_,Nat.le_refl _,Nat.min_le_right _ _,by rw [yUw];exact happ w⟩⟩
    · rw [hfm];simp
    · simp
    · intro k o hk ho
      have hkl:=zLv ho
      rw [List.getElem?_append_left (by simp;omega),List.getElem?_set_ne (Ne.symm hk),List.getElem?_append_left hkl];exact ho
  · have happ:=fun w=>append_full (P:=Try.prog) (t:=63) (w:=w) wf un_63 zQx el_67 (n:=1) (by omega) (by decide) (by decide) hM' (wAw xAx l) (hs w) rfl
    simp only [hlen] at happ
    refine ⟨_,_,⟨none,by rw [List.length_append];try rfl,?_,.inl rfl⟩,?_,?_,fun w=>⟨w,Nat.min_le_right _ _,Nat.le_refl _,by rw [yUx un_63 zQx];exact happ w⟩⟩
    · rw [hfm];simp
    · simp
    · intro k o hk ho
      have hkl:=zLv ho
      rw [List.append_assoc,List.getElem?_append_left hkl];exact ho
theorem chain_ok {s:Nat→Bool} {l:List Att} {T L p:Nat} {prof:List Nat} (h:Chain s l T L p prof):(∀ x ∈ l,OkA x)∧l.length≤p+1:=by
  induction h with
  | nil=>exact ⟨fun x hx=>by rw [List.mem_singleton.1 hx];exact ⟨by decide,by decide⟩,by simp⟩
  | @snoc l T L p q prof hc hpq w hq ih=>
    have hf:=hc.facts
    refine ⟨fun x hx=>?_,by rw [List.length_append];simp;omega⟩
    rcases List.mem_append.1 hx with h|h
    · exact ih.1 x h
    · rw [List.mem_singleton.1 h]
      have:=hf.le
      have:=hf.p_le
      exact ⟨⟨by show (-1:Int)≤(q:Int);omega,by show (q:Int)≤(128:Int);omega⟩,by show L≤128;omega⟩
theorem seek (bs:List Bool) (hb:bs.length≤128) (a:AV) (hc:CapU 1 a) (h:H) (wf:Wf h) (hs:Sl h a 1 bs.length (bs.map bi)) :
    ∃ l T L p prof v M idx,Chain (sq bs) l T L p prof∧p≤bs.length∧Makes T L (sq bs) bs.length∧AttsAt h M idx l v∧(om Try.prog KK).call (.fn 49 [a]) h = .ok (.tup [v,.agg (rg T L)]) (X h M h.w):=by
  suffices hW:WV ((om Try.prog KK).call (.fn 49 [a]) h) fun r h'=>∃ l T L p prof v M idx,Chain (sq bs) l T L p prof∧p≤bs.length∧Makes T L (sq bs) bs.length∧AttsAt h M idx l v∧r = .tup [v,.agg (rg T L)]∧h'=X h M h.w by
    obtain ⟨r,h',e,l,T,L,p,prof,v,M,idx,h1,h2,h3,h4,rfl,rfl⟩:=hW
    exact ⟨l,T,L,p,prof,v,M,idx,h1,h2,h3,h4,e⟩
  have hl : ∀ h',lenE Try.prog 22 a h'=some (ii (bs.length:Int)):=fun h'=>hs.len yTx
  obtain ⟨f1,f2⟩:=zPv hs
  refine zMy (fn:=Try.f49) Try.func49 rfl rfl rfl rfl rfl ?_
  simp only [zKv]
  (repeat' (first
  | (with_reducible first|refine zJx ?_|refine zGw ?_|refine zFz ?_|refine zEv ?_|refine zFy ?_|refine zJw ?_|refine zGv ?_|refine zCz ?_|refine zDw ?_|refine zCy ?_|refine zCv ?_|refine zEx ?_|refine zDz ?_|refine zCx ?_|refine zBx ?_|refine zEz ?_|refine zEy ?_|refine zAw ?_|refine zBy ?_)
  | refine zDy ?_|refine zEw rfl ?_|refine zIv ?_|refine zJy ?_
  | ((first|refine zGx rfl rfl rfl rfl rfl fun K_ hK_=>?_|refine zGy rfl rfl rfl rfl rfl fun K_ hK_=>?_);simp only [zAz,zDx,zGz,↓reduceIte,reduceCtorEq,Nat.reduceEqDiff,Bool.not_true,Bool.not_false];refine hK_ _ ?_;clear hK_ K_)
  | refine zDv (by decide) ?_
  | ((try first|refine zKy rfl rfl rfl ?_|refine zIw rfl rfl ?_|refine zKx rfl rfl rfl ?_|refine zJz rfl rfl ?_);(refine zIx fun Q_ hQ_=>?_;simp (disch:=first|omega|(simp only [List.length_cons,List.length_nil,List.length_append];omega)) only [bb,bp,zKv,↓reduceIte,reduceCtorEq,Nat.reduceEqDiff,Nat.reduceLT,Nat.reduceLeDiff,Nat.reduceAdd,Nat.reduceMul,Nat.reduceSub,Nat.reduceBEq,Int.reduceToNat,cond_true,cond_false,eq_self,beq_self_eq_true,hl,f1,f2,zFx wf,zHx wf,zBv wf,zFw wf,zAy wf,zAx,tEvZ16,zIy,zIz,zHv,zHw,zAv wf];first|(refine zCw (Q:=Q_) (fun hp_=>?_) (fun hp_=>?_) <;> first|(exfalso;omega)|(refine hQ_ _ _ ?_;clear hQ_ Q_))|(refine zBw (Q:=Q_) (fun hp_=>?_) (fun hp_=>?_) <;> first|(exfalso;omega)|(refine hQ_ _ _ ?_;clear hQ_ Q_))|(refine hQ_ _ _ ?_;clear hQ_ Q_)))
  | (refine zHz fun K_ hK_=>?_;simp (disch:=omega) only [zFv,zAz,zHy,↓reduceIte,reduceCtorEq,Nat.reduceEqDiff,Nat.reduceLT];refine hK_ _ ?_;clear hK_ K_)))
  refine zOw (α:=Nat) (fun (p:Nat) f d h'=>p≤bs.length∧f 0=a∧f 3 = .ptr (nx h 0) 0∧f 5 = .ptr (nx h 2) 0∧d=[] ∧
    ∃ l T L prof v M w idx,f 4=v∧Chain (sq bs) l T L p prof∧AttsAt h M idx l v∧idx≠0∧idx≠2∧M[0]? = some (.cells (zBz [.int .u64 0,.int .u64 0,.int .i64 0]) 59)∧M[2]? = some (.cells (zBz (rg T L)) 59)∧h'=X h M w∧h.clock≤w∧w≤h.clock+M.length) (fun p=>bs.length+1 - p) ?_ (bs.length+2) 0 (by omega) ?_
  · rintro p f d h' ⟨hp,g0,g3,g5,rfl,l,T,L,prof,v,M,w,idx,g4,hch,hat,hi0,hi2,hM0,hM2,rfl,hw,hw2⟩
    have hf:=hch.facts
    obtain ⟨hok,hln⟩:=chain_ok hch
    have hple:=hf.p_le
    have hT:T<2 ^ 128:=Nat.lt_of_lt_of_le hf.lt (Nat.pow_le_pow_right (by decide) (by have:=hf.le;omega))
    have hL:L≤128:=by have:=hf.le;omega
    have get : ∀ {k:Nat} {o:AO},M[k]? = some o → ∀ J,(M++J)[k]? = some o:=fun {k o} hq J=>by rw [List.getElem?_append_left (zLv hq)];exact hq
    have hMl:=zLv hM2
    have s0 : ∀ J o,(M++J).set 0 o=M.set 0 o++J:=fun J o=>List.set_append_left _ _ (by omega)
    have s2 : ∀ J o,(M++J).set 2 o=M.set 2 o++J:=fun J o=>List.set_append_left _ _ (by omega)
    have sM0:M.set 0 (.cells (zBz [uu (T % 2 ^ 64),uu (T >>> 64),ii (L:Int)]) 59)=M.set 0 (.cells (zBz (rg T L)) 59):=rfl
    obtain ⟨v1,h1,e1,r,hr,rfl,rfl⟩:=wrong T L hT hL bs hb a hc _ (wf.X (l:=M) (w:=w) hw2) (hs.up wf M w)
    have hrn:L≤r∧r≤bs.length∧Makes T L (sq bs) r∧(r<bs.length→sq bs r≠pred T L (sq bs) r):=by
      rcases hr with ⟨h1,_⟩|⟨_,h2,h3,h4,h5⟩
      · have:=hf.le;omega
      · exact ⟨h2,h3,h4,h5⟩
    obtain ⟨fv1,fv2⟩:=zPv (hat.sl wf w)
    unfold rg at e1 hM2
    by_cases hrb:r=bs.length
    · rw [hrb] at e1
      (repeat' (first
  | (with_reducible first|refine zJx ?_|refine zGw ?_|refine zFz ?_|refine zEv ?_|refine zFy ?_|refine zJw ?_|refine zGv ?_|refine zCz ?_|refine zDw ?_|refine zCy ?_|refine zCv ?_|refine zEx ?_|refine zDz ?_|refine zCx ?_|refine zBx ?_|refine zEz ?_|refine zEy ?_|refine zAw ?_|refine zBy ?_)
  | refine zDy ?_|refine zEw rfl ?_|refine zIv ?_|refine zJy ?_
  | ((first|refine zGx rfl rfl rfl rfl rfl fun K_ hK_=>?_|refine zGy rfl rfl rfl rfl rfl fun K_ hK_=>?_);simp only [zAz,zDx,zGz,↓reduceIte,reduceCtorEq,Nat.reduceEqDiff,Bool.not_true,Bool.not_false];refine hK_ _ ?_;clear hK_ K_)
  | refine zDv (by decide) ?_
  | ((try first|refine zKy rfl rfl rfl ?_|refine zIw rfl rfl ?_|refine zKx rfl rfl rfl ?_|refine zJz rfl rfl ?_);(refine zIx fun Q_ hQ_=>?_;simp (disch:=first|omega|(simp only [List.length_cons,List.length_nil,List.length_append];omega)) only [bb,bp,zKv,↓reduceIte,reduceCtorEq,Nat.reduceEqDiff,Nat.reduceLT,Nat.reduceLeDiff,Nat.reduceAdd,Nat.reduceMul,Nat.reduceSub,Nat.reduceBEq,Int.reduceToNat,cond_true,cond_false,eq_self,beq_self_eq_true,hl,f1,f2,g0,g3,g4,g5,hM2,hM0,fv1,fv2,zFx wf,zHx wf,zBv wf,zFw wf,zAy wf,zAx,tEvZ16,zIy,zIz,zHv,zHw,zAv wf];first|(refine zCw (Q:=Q_) (fun hp_=>?_) (fun hp_=>?_) <;> first|(exfalso;omega)|(refine hQ_ _ _ ?_;clear hQ_ Q_))|(refine zBw (Q:=Q_) (fun hp_=>?_) (fun hp_=>?_) <;> first|(exfalso;omega)|(refine hQ_ _ _ ?_;clear hQ_ Q_))|(refine hQ_ _ _ ?_;clear hQ_ Q_)|(refine zOv (e1) ?_;refine hQ_ _ _ ?_;clear hQ_ Q_)))
  | (refine zHz fun K_ hK_=>?_;simp (disch:=omega) only [zFv,zAz,zHy,↓reduceIte,reduceCtorEq,Nat.reduceEqDiff,Nat.reduceLT];refine hK_ _ ?_;clear hK_ K_)))
      refine zPy [.no,.full,.no,.full] (by kernel_rfl) ?_
      (repeat' (first
  | (with_reducible first|refine zJx ?_|refine zGw ?_|refine zFz ?_|refine zEv ?_|refine zFy ?_|refine zJw ?_|refine zGv ?_|refine zCz ?_|refine zDw ?_|refine zCy ?_|refine zCv ?_|refine zEx ?_|refine zDz ?_|refine zCx ?_|refine zBx ?_|refine zEz ?_|refine zEy ?_|refine zAw ?_|refine zBy ?_)
  | refine zDy ?_|refine zEw rfl ?_|refine zIv ?_|refine zJy ?_
  | ((first|refine zGx rfl rfl rfl rfl rfl fun K_ hK_=>?_|refine zGy rfl rfl rfl rfl rfl fun K_ hK_=>?_);simp only [zAz,zDx,zGz,↓reduceIte,reduceCtorEq,Nat.reduceEqDiff,Bool.not_true,Bool.not_false];refine hK_ _ ?_;clear hK_ K_)
  | refine zDv (by decide) ?_
  | ((try first|refine zKy rfl rfl rfl ?_|refine zIw rfl rfl ?_|refine zKx rfl rfl rfl ?_|refine zJz rfl rfl ?_);(refine zIx fun Q_ hQ_=>?_;simp (disch:=first|omega|(simp only [List.length_cons,List.length_nil,List.length_append];omega)) only [bb,bp,zKv,↓reduceIte,reduceCtorEq,Nat.reduceEqDiff,Nat.reduceLT,Nat.reduceLeDiff,Nat.reduceAdd,Nat.reduceMul,Nat.reduceSub,Nat.reduceBEq,Int.reduceToNat,cond_true,cond_false,eq_self,beq_self_eq_true,hl,f1,f2,g0,g3,g4,g5,hM2,hM0,fv1,fv2,zFx wf,zHx wf,zBv wf,zFw wf,zAy wf,zAx,tEvZ16,zIy,zIz,zHv,zHw,zAv wf];first|(refine zCw (Q:=Q_) (fun hp_=>?_) (fun hp_=>?_) <;> first|(exfalso;omega)|(refine hQ_ _ _ ?_;clear hQ_ Q_))|(refine zBw (Q:=Q_) (fun hp_=>?_) (fun hp_=>?_) <;> first|(exfalso;omega)|(refine hQ_ _ _ ?_;clear hQ_ Q_))|(refine hQ_ _ _ ?_;clear hQ_ Q_)))
  | (refine zHz fun K_ hK_=>?_;simp (disch:=omega) only [zFv,zAz,zHy,↓reduceIte,reduceCtorEq,Nat.reduceEqDiff,Nat.reduceLT];refine hK_ _ ?_;clear hK_ K_)))
      have hld:loadE Try.prog 59 (.ptr (nx h 0) 0) (X h (M.set 0 (.cells (zBz [uu (T % 2 ^ 64),uu (T >>> 64),ii (L:Int)]) 59)) (min w h.clock))=some (.agg [uu (T % 2 ^ 64),uu (T >>> 64),ii (L:Int)]):=by
        have e:(M.set 0 (AO.cells (zBz [uu (T % 2 ^ 64),uu (T >>> 64),ii (L:Int)]) 59))[0]? = some (.cells (zBz [uu (T % 2 ^ 64),uu (T >>> 64),ii (L:Int)]) 59):=List.getElem?_set_self (by omega)
        simp (disch:=first|omega|(simp only [List.length_cons,List.length_nil,List.length_append];omega)) only [bb,bp,zKv,↓reduceIte,reduceCtorEq,Nat.reduceEqDiff,Nat.reduceLT,Nat.reduceLeDiff,Nat.reduceAdd,Nat.reduceMul,Nat.reduceSub,Nat.reduceBEq,Int.reduceToNat,cond_true,cond_false,eq_self,beq_self_eq_true,zBv wf,e,tEvZ16,zIy,zIz,zHv,zHw,zAv wf]
      refine zKw _ _ rfl (rettc (by decide) (by decide) (by simp only [zAz,↓reduceIte,reduceCtorEq,Nat.reduceEqDiff];rw [g3];exact hld)) ?_
      simp only [zAz,↓reduceIte,reduceCtorEq,Nat.reduceEqDiff]
      obtain ⟨cap,hve,hMi,hcap⟩:=hat
      subst hve
      refine WV_keep wf (by omega) (fun hfl=>absurd (show false=true from hfl) (by decide)) (fun _=>?_)
      exact ⟨l,T,L,p,prof,_,M.set 0 (.cells (zBz [uu (T % 2 ^ 64),uu (T >>> 64),ii (L:Int)]) 59),idx,hch,hp,by have:=hrn.2.2.1;rw [hrb] at this;exact this,⟨cap,rfl,by rw [List.getElem?_set_ne (Ne.symm hi0)];exact hMi,hcap⟩,rfl,rfl⟩
    · have hw':Wrong T L (sq bs) r:=⟨hrn.1,hrn.2.2.1,hrn.2.2.2 (by omega)⟩
      have hpr:p≤r:=Nat.le_of_not_lt fun hlt=>hw'.bad (hf.makes r hrn.1 hlt)
      have hch2:=Chain.snoc hch hpr hw' (by omega)
      have hrn' : ¬ ((r:Nat):Int)=(bs.length:Int):=by omega
      have hBok:=hok _ (bestA_mem hf.ne)
      have hBT:(bestA l).T<2 ^ 128:=by
        rcases hf.by_ with h|⟨h1,_⟩
        · rw [h];decide
        · exact Nat.lt_of_lt_of_le h1 (Nat.pow_le_pow_right (by decide) hBok.2)
      have hBat:(bestA l).at_<(r:Int):=by
        rcases hf.by_ with h|⟨_,q',h,h2,_⟩
        · rw [h];show (-1:Int)<_;omega
        · omega
      have hBat2:=hBok.1.1
      generalize hgg:((r:Int) - (bestA l).at_).toNat=g at *
      have hgg':(⟨T,L,(r:Int)⟩:Att).at_ - (bestA l).at_=(g:Int):=by show (r:Int) - _=_;omega
      have cS : ∀ (J:List AO) (w:Nat),w≤h.clock+(M.length+J.length)→(om Try.prog KK).call (.fn 55 [v]) (X h (M++J) w) = .ok (.agg [uu ((bestA l).T % 2 ^ 64),uu ((bestA l).T >>> 64),ii ((bestA l).L:Int),ii (bestA l).at_]) (X h (M++J) w):=fun J w hw=>strongest l hf.ne (by omega) hok v hat.capU _ (wf.X (by rw [List.length_append];exact hw)) ((hat.more J).sl wf w)
      have cM : ∀ (J:List AO) (w:Nat),w≤h.clock+J.length→(om Try.prog KK).call (.fn 71 [.agg [uu (T % 2 ^ 64),uu (T >>> 64),ii (L:Int),ii (r:Int)],.agg [uu ((bestA l).T % 2 ^ 64),uu ((bestA l).T >>> 64),ii ((bestA l).L:Int),ii (bestA l).at_]]) (X h J w) = .ok (.agg [uu (mend T g (bestA l).T % 2 ^ 64),uu (mend T g (bestA l).T >>> 64),ii ((max L ((bestA l).L+g):Nat):Int)]) (X h J w):=fun J w hw=>mendC ⟨T,L,(r:Int)⟩ (bestA l) g hgg' (by omega) hT hBT ⟨hL,hBok.2⟩ _ (wf.X hw)
      generalize mend T g (bestA l).T=T2 at *
      generalize max L ((bestA l).L+g)=L2 at *
      generalize hBa:bestA l=B at *

      have hat2:AttsAt h (M.set 2 (.cells (zBz [uu (T2 % 2 ^ 64),uu (T2 >>> 64),ii (L2:Int)]) 59)++[.cells (zBz (attC ⟨T,L,(r:Int)⟩)) 67]) idx l v:=by
        obtain ⟨cap,hve,hMi,hcap⟩:=hat
        exact ⟨cap,hve,by rw [List.getElem?_append_left (by rw [List.length_set];exact zLv hMi),List.getElem?_set_ne (Ne.symm hi2)];exact hMi,hcap⟩
      obtain ⟨v',M',hat',hlen',hkeep,happ⟩:=hat2.app wf ⟨T,L,(r:Int)⟩ (by omega)
      obtain ⟨w',hw1',hw2',happ⟩:=happ (min (min (h.clock+M.length) w) (min (h.clock+2) (h.clock+(M.length+1))))
      have hM0':M'[0]? = some (.cells (zBz [.int .u64 0,.int .u64 0,.int .i64 0]) 59):=hkeep 0 _ (Ne.symm hi0) (by rw [List.getElem?_append_left (by rw [List.length_set];omega),List.getElem?_set_ne (by decide)];exact hM0)
      have hM2':M'[2]? = some (.cells (zBz [uu (T2 % 2 ^ 64),uu (T2 >>> 64),ii (L2:Int)]) 59):=hkeep 2 _ (Ne.symm hi2) (by rw [List.getElem?_append_left (by rw [List.length_set];omega),List.getElem?_set_self (by omega)])
      have hl7 : ∀ (N:List AO),N.length=M.length → ∀ J w,loadAgg (nx h M.length) 0 (some 4) (X h (N ++ .cells (zBz [uu (T % 2 ^ 64),uu (T >>> 64),ii (L:Int),ii (r:Int)]) 67 :: J) w)=some (.agg [uu (T % 2 ^ 64),uu (T >>> 64),ii (L:Int),ii (r:Int)]):=fun N hN J w=>by
        rw [zBv wf,← hN,yWw,List.getElem?_cons_zero,yWx (by decide)];rfl
      have hl7a:=hl7 M rfl
      have hl7b:=hl7 (M.set 2 (.cells (zBz [uu (T2 % 2 ^ 64),uu (T2 >>> 64),ii (L2:Int)]) 59)) (by rw [List.length_set])
      have hsl:(M.set 2 (AO.cells (zBz [uu (T2 % 2 ^ 64),uu (T2 >>> 64),ii (L2:Int)]) 59)).length=M.length:=List.length_set
      have hset : ∀ J w,writeCells (nx h 2) 0 [uu (T2 % 2 ^ 64),uu (T2 >>> 64),ii (L2:Int)] (X h (M++J) w)=some (X h (M.set 2 (.cells (zBz [uu (T2 % 2 ^ 64),uu (T2 >>> 64),ii (L2:Int)]) 59)++J) (min (h.clock+2) w)):=fun J w=>by
        rw [zAy wf,get hM2 J,yVy]
        have ho:allOne [uu (T2 % 2 ^ 64),uu (T2 >>> 64),ii (L2:Int)]=true:=rfl
        rw [ho,cond_true,if_pos (by show 0+3≤3;decide)]
        show some (X h ((M++J).set 2 _) _)=_
        rw [s2]
        rfl
      have hat4:=hat'.more []
      rw [List.append_nil] at hat4
      unfold attC at happ
      simp only [List.append_assoc,List.cons_append,List.nil_append,List.length_append,hsl,List.length_cons,List.length_nil,Nat.zero_add] at happ
      obtain ⟨fw1,fw2⟩:=zPv (hat'.sl wf h.clock)
      have hrz : ∀ id off l c esz,reszT Try.prog 63 (.sl id off l (some c) esz) = .sl id off l (some c) 4:=fun _ _ _ _ _=>yUx un_63 zQx
      (repeat' (first
  | (with_reducible first|refine zJx ?_|refine zGw ?_|refine zFz ?_|refine zEv ?_|refine zFy ?_|refine zJw ?_|refine zGv ?_|refine zCz ?_|refine zDw ?_|refine zCy ?_|refine zCv ?_|refine zEx ?_|refine zDz ?_|refine zCx ?_|refine zBx ?_|refine zEz ?_|refine zEy ?_|refine zAw ?_|refine zBy ?_)
  | refine zDy ?_|refine zEw rfl ?_|refine zIv ?_|refine zJy ?_
  | ((first|refine zGx rfl rfl rfl rfl rfl fun K_ hK_=>?_|refine zGy rfl rfl rfl rfl rfl fun K_ hK_=>?_);simp only [zAz,zDx,zGz,↓reduceIte,reduceCtorEq,Nat.reduceEqDiff,Bool.not_true,Bool.not_false];refine hK_ _ ?_;clear hK_ K_)
  | refine zDv (by decide) ?_
  | ((try first|refine zKy rfl rfl rfl ?_|refine zIw rfl rfl ?_|refine zKx rfl rfl rfl ?_|refine zJz rfl rfl ?_);(refine zIx fun Q_ hQ_=>?_;simp (disch:=first|omega|(simp only [List.length_cons,List.length_nil,List.length_append];omega)) only [bb,bp,zKv,↓reduceIte,reduceCtorEq,Nat.reduceEqDiff,Nat.reduceLT,Nat.reduceLeDiff,Nat.reduceAdd,Nat.reduceMul,Nat.reduceSub,Nat.reduceBEq,Int.reduceToNat,cond_true,cond_false,eq_self,beq_self_eq_true,hl,f1,f2,g0,g3,g4,g5,hM2,hM0,fv1,fv2,zFx wf,zHx wf,zBv wf,zFw wf,zAy wf,zAx,tEvZ16,zIy,zIz,zHv,zHw,zAv wf];first|(refine zCw (Q:=Q_) (fun hp_=>?_) (fun hp_=>?_) <;> first|(exfalso;omega)|(refine hQ_ _ _ ?_;clear hQ_ Q_))|(refine zBw (Q:=Q_) (fun hp_=>?_) (fun hp_=>?_) <;> first|(exfalso;omega)|(refine hQ_ _ _ ?_;clear hQ_ Q_))|(refine hQ_ _ _ ?_;clear hQ_ Q_)|(refine zOv (e1) ?_;refine hQ_ _ _ ?_;clear hQ_ Q_)))
  | (refine zHz fun K_ hK_=>?_;simp (disch:=omega) only [zFv,zAz,zHy,↓reduceIte,reduceCtorEq,Nat.reduceEqDiff,Nat.reduceLT];refine hK_ _ ?_;clear hK_ K_)))
      refine zPy [.no,.no,.no,.full,.full] (by kernel_rfl) ?_
      (repeat' (first
  | (with_reducible first|refine zJx ?_|refine zGw ?_|refine zFz ?_|refine zEv ?_|refine zFy ?_|refine zJw ?_|refine zGv ?_|refine zCz ?_|refine zDw ?_|refine zCy ?_|refine zCv ?_|refine zEx ?_|refine zDz ?_|refine zCx ?_|refine zBx ?_|refine zEz ?_|refine zEy ?_|refine zAw ?_|refine zBy ?_)
  | refine zDy ?_|refine zEw rfl ?_|refine zIv ?_|refine zJy ?_
  | ((first|refine zGx rfl rfl rfl rfl rfl fun K_ hK_=>?_|refine zGy rfl rfl rfl rfl rfl fun K_ hK_=>?_);simp only [zAz,zDx,zGz,↓reduceIte,reduceCtorEq,Nat.reduceEqDiff,Bool.not_true,Bool.not_false];refine hK_ _ ?_;clear hK_ K_)
  | refine zDv (by decide) ?_
  | ((try first|refine zKy rfl rfl rfl ?_|refine zIw rfl rfl ?_|refine zKx rfl rfl rfl ?_|refine zJz rfl rfl ?_);(refine zIx fun Q_ hQ_=>?_;simp (disch:=first|omega|(simp only [List.length_cons,List.length_nil,List.length_append];omega)) only [bb,bp,zKv,↓reduceIte,reduceCtorEq,Nat.reduceEqDiff,Nat.reduceLT,Nat.reduceLeDiff,Nat.reduceAdd,Nat.reduceMul,Nat.reduceSub,Nat.reduceBEq,Int.reduceToNat,cond_true,cond_false,eq_self,beq_self_eq_true,hl,f1,f2,g0,g3,g4,g5,hM2,hM0,fv1,fv2,hl7a,cS,cM,hset,tEvZ16,zIy,zIz,zHv,zHw,zAv wf];first|(refine zCw (Q:=Q_) (fun hp_=>?_) (fun hp_=>?_) <;> first|(exfalso;omega)|(refine hQ_ _ _ ?_;clear hQ_ Q_))|(refine zBw (Q:=Q_) (fun hp_=>?_) (fun hp_=>?_) <;> first|(exfalso;omega)|(refine hQ_ _ _ ?_;clear hQ_ Q_))|(refine hQ_ _ _ ?_;clear hQ_ Q_)))
  | (refine zHz fun K_ hK_=>?_;simp (disch:=omega) only [zFv,zAz,zHy,↓reduceIte,reduceCtorEq,Nat.reduceEqDiff,Nat.reduceLT];refine hK_ _ ?_;clear hK_ K_)))
      (repeat' (first
  | (with_reducible first|refine zJx ?_|refine zGw ?_|refine zFz ?_|refine zEv ?_|refine zFy ?_|refine zJw ?_|refine zGv ?_|refine zCz ?_|refine zDw ?_|refine zCy ?_|refine zCv ?_|refine zEx ?_|refine zDz ?_|refine zCx ?_|refine zBx ?_|refine zEz ?_|refine zEy ?_|refine zAw ?_|refine zBy ?_)
  | refine zDy ?_|refine zEw rfl ?_|refine zIv ?_|refine zJy ?_
  | ((first|refine zGx rfl rfl rfl rfl rfl fun K_ hK_=>?_|refine zGy rfl rfl rfl rfl rfl fun K_ hK_=>?_);simp only [zAz,zDx,zGz,↓reduceIte,reduceCtorEq,Nat.reduceEqDiff,Bool.not_true,Bool.not_false];refine hK_ _ ?_;clear hK_ K_)
  | refine zDv (by decide) ?_
  | ((try first|refine zKy rfl rfl rfl ?_|refine zIw rfl rfl ?_|refine zKx rfl rfl rfl ?_|refine zJz rfl rfl ?_);(refine zIx fun Q_ hQ_=>?_;simp (disch:=first|omega|(simp only [List.length_cons,List.length_nil,List.length_append];omega)) only [bb,bp,zKv,↓reduceIte,reduceCtorEq,Nat.reduceEqDiff,Nat.reduceLT,Nat.reduceLeDiff,Nat.reduceAdd,Nat.reduceMul,Nat.reduceSub,Nat.reduceBEq,Int.reduceToNat,cond_true,cond_false,eq_self,beq_self_eq_true,hl,f1,f2,g0,g3,g4,g5,hl7b,fv1,fv2,fw1,fw2,happ,hrz,hsl,zRw,tEvZ16,zIy,zIz,zHv,zHw,zAv wf];first|(refine zCw (Q:=Q_) (fun hp_=>?_) (fun hp_=>?_) <;> first|(exfalso;omega)|(refine hQ_ _ _ ?_;clear hQ_ Q_))|(refine zBw (Q:=Q_) (fun hp_=>?_) (fun hp_=>?_) <;> first|(exfalso;omega)|(refine hQ_ _ _ ?_;clear hQ_ Q_))|(refine hQ_ _ _ ?_;clear hQ_ Q_)))
  | (refine zHz fun K_ hK_=>?_;simp (disch:=omega) only [zFv,zAz,zHy,↓reduceIte,reduceCtorEq,Nat.reduceEqDiff,Nat.reduceLT];refine hK_ _ ?_;clear hK_ K_)))
      have hM2'':M'[2]? = some (.cells (zBz (rg T2 L2)) 59):=hM2'
      rw [List.length_append,hsl] at hlen' hat'
      refine zJv (r+1) (by omega) ⟨by omega,by simp only [zAz,↓reduceIte,reduceCtorEq,Nat.reduceEqDiff];exact g0,by simp only [zAz,↓reduceIte,reduceCtorEq,Nat.reduceEqDiff];exact g3,by simp only [zAz,↓reduceIte,reduceCtorEq,Nat.reduceEqDiff];exact g5,rfl,l++[⟨T,L,(r:Int)⟩],T2,L2,_,v',M',w',_,by simp only [zAz,↓reduceIte,reduceCtorEq,Nat.reduceEqDiff],hch2,hat',by omega,by simp only [List.length_cons,List.length_nil];omega,hM0',hM2'',rfl,by omega,?_⟩
      simp only [List.length_cons,List.length_nil] at hlen'
      omega
  · exact ⟨Nat.zero_le _,rfl,rfl,rfl,rfl,[⟨0,0,-1⟩],0,0,[],_,_,_,1,rfl,.nil,⟨some 1,rfl,rfl,.inr rfl⟩,by decide,by decide,rfl,rfl,rfl,by omega,by show _≤h.clock+3;omega⟩
end Go.Proofs.Ytmincoafjnnkpaa
end

section
namespace Go.Proofs.Ytmincoafjnnkpaa
open Go.Ev
set_option maxRecDepth 100000
set_option linter.unusedSimpArgs false
set_option linter.unusedVariables false
set_option maxHeartbeats 2000000
theorem tEvZ13 :type_of% (And.intro (And.intro (And.intro (And.intro (And.intro (And.intro (And.intro (@yQx) (@yQy)) (And.intro (@yQz) (@yPv))) (And.intro (And.intro (@yPw) (@yPx)) (And.intro (@ia_2) (And.intro (@ia_3) (@ia_4))))) (And.intro (And.intro (And.intro (@ia_5) (@yPy)) (And.intro (@yPz) (@yOv))) (And.intro (And.intro (@yOw) (@yOx)) (And.intro (@yOy) (And.intro (@zRv) (@yOz)))))) (And.intro (And.intro (And.intro (And.intro (@yNv) (@yNw)) (And.intro (@yNx) (@yNy))) (And.intro (And.intro (@yNz) (@yMv)) (And.intro (@yMw) (And.intro (@yMx) (@sz_2))))) (And.intro (And.intro (And.intro (@sz_3) (@sz_4)) (And.intro (@sz_5) (And.intro (@zQv) (@zYw)))) (And.intro (And.intro (@zYx) (@zYy)) (And.intro (@zYz) (And.intro (@zXv) (@zRx))))))) (And.intro (And.intro (And.intro (And.intro (And.intro (@zXw) (@zXx)) (And.intro (@zXy) (@zQx))) (And.intro (And.intro (@zXz) (@zWv)) (And.intro (@zWw) (And.intro (@zWx) (@zWy))))) (And.intro (And.intro (And.intro (@ze_2) (@ze_3)) (And.intro (@ze_4) (And.intro (@ze_5) (@zWz)))) (And.intro (And.intro (@zVv) (@zVw)) (And.intro (@zVx) (And.intro (@zVy) (@zVz)))))) (And.intro (And.intro (And.intro (And.intro (@zUv) (@zUw)) (And.intro (@zUx) (@zUy))) (And.intro (And.intro (@zUz) (@zTv)) (And.intro (@zTw) (And.intro (@zTx) (@zTy))))) (And.intro (And.intro (And.intro (@zOy) (@zOz)) (And.intro (@zNv) (And.intro (@zNw) (@zNx)))) (And.intro (And.intro (@zNy) (@zNz)) (And.intro (@zMv) (And.intro (@zMw) (@yMy)))))))) (And.intro (And.intro (And.intro (And.intro (And.intro (And.intro (@yMz) (@yLv)) (And.intro (@yLw) (@yLx))) (And.intro (And.intro (@yLy) (@yLz)) (And.intro (@yKv) (And.intro (@yKw) (@yKx))))) (And.intro (And.intro (And.intro (@yKy) (@yKz)) (And.intro (@yJv) (@yJw))) (And.intro (And.intro (@yJx) (@yJy)) (And.intro (@yJz) (And.intro (@yIv) (@yIw)))))) (And.intro (And.intro (And.intro (And.intro (@yIx) (@yIy)) (And.intro (@yIz) (@yHv))) (And.intro (And.intro (@yHw) (@yHx)) (And.intro (@yHy) (And.intro (@yHz) (@yGv))))) (And.intro (And.intro (And.intro (@yGw) (@yGx)) (And.intro (@yGy) (And.intro (@yGz) (@yFv)))) (And.intro (And.intro (@yFw) (@yFx)) (And.intro (@yFy) (And.intro (@yFz) (@yEv))))))) (And.intro (And.intro (And.intro (And.intro (And.intro (@yEw) (@yEx)) (And.intro (@yEy) (@yEz))) (And.intro (And.intro (@yDv) (@yDw)) (And.intro (@yDx) (And.intro (@yDy) (@yDz))))) (And.intro (And.intro (And.intro (@yCv) (@yCw)) (And.intro (@yCx) (And.intro (@yCy) (@yCz)))) (And.intro (And.intro (@zSz) (@yBv)) (And.intro (@yBw) (And.intro (@yBx) (@yBy)))))) (And.intro (And.intro (And.intro (And.intro (@yBz) (@yAv)) (And.intro (@yAw) (@yAx))) (And.intro (And.intro (@yAy) (@yAz)) (And.intro (@zZv) (And.intro (@zZw) (@zZx))))) (And.intro (And.intro (And.intro (@zZy) (@zZz)) (And.intro (@zQy) (And.intro (@zSv) (@zSw)))) (And.intro (And.intro (@zQw) (@zSx)) (And.intro (@zRy) (And.intro (@zSy) (@zRw))))))))):=And.intro (And.intro (And.intro (And.intro (And.intro (And.intro (And.intro (@yQx) (@yQy)) (And.intro (@yQz) (@yPv))) (And.intro (And.intro (@yPw) (@yPx)) (And.intro (@ia_2) (And.intro (@ia_3) (@ia_4))))) (And.intro (And.intro (And.intro (@ia_5) (@yPy)) (And.intro (@yPz) (@yOv))) (And.intro (And.intro (@yOw) (@yOx)) (And.intro (@yOy) (And.intro (@zRv) (@yOz)))))) (And.intro (And.intro (And.intro (And.intro (@yNv) (@yNw)) (And.intro (@yNx) (@yNy))) (And.intro (And.intro (@yNz) (@yMv)) (And.intro (@yMw) (And.intro (@yMx) (@sz_2))))) (And.intro (And.intro (And.intro (@sz_3) (@sz_4)) (And.intro (@sz_5) (And.intro (@zQv) (@zYw)))) (And.intro (And.intro (@zYx) (@zYy)) (And.intro (@zYz) (And.intro (@zXv) (@zRx))))))) (And.intro (And.intro (And.intro (And.intro (And.intro (@zXw) (@zXx)) (And.intro (@zXy) (@zQx))) (And.intro (And.intro (@zXz) (@zWv)) (And.intro (@zWw) (And.intro (@zWx) (@zWy))))) (And.intro (And.intro (And.intro (@ze_2) (@ze_3)) (And.intro (@ze_4) (And.intro (@ze_5) (@zWz)))) (And.intro (And.intro (@zVv) (@zVw)) (And.intro (@zVx) (And.intro (@zVy) (@zVz)))))) (And.intro (And.intro (And.intro (And.intro (@zUv) (@zUw)) (And.intro (@zUx) (@zUy))) (And.intro (And.intro (@zUz) (@zTv)) (And.intro (@zTw) (And.intro (@zTx) (@zTy))))) (And.intro (And.intro (And.intro (@zOy) (@zOz)) (And.intro (@zNv) (And.intro (@zNw) (@zNx)))) (And.intro (And.intro (@zNy) (@zNz)) (And.intro (@zMv) (And.intro (@zMw) (@yMy)))))))) (And.intro (And.intro (And.intro (And.intro (And.intro (And.intro (@yMz) (@yLv)) (And.intro (@yLw) (@yLx))) (And.intro (And.intro (@yLy) (@yLz)) (And.intro (@yKv) (And.intro (@yKw) (@yKx))))) (And.intro (And.intro (And.intro (@yKy) (@yKz)) (And.intro (@yJv) (@yJw))) (And.intro (And.intro (@yJx) (@yJy)) (And.intro (@yJz) (And.intro (@yIv) (@yIw)))))) (And.intro (And.intro (And.intro (And.intro (@yIx) (@yIy)) (And.intro (@yIz) (@yHv))) (And.intro (And.intro (@yHw) (@yHx)) (And.intro (@yHy) (And.intro (@yHz) (@yGv))))) (And.intro (And.intro (And.intro (@yGw) (@yGx)) (And.intro (@yGy) (And.intro (@yGz) (@yFv)))) (And.intro (And.intro (@yFw) (@yFx)) (And.intro (@yFy) (And.intro (@yFz) (@yEv))))))) (And.intro (And.intro (And.intro (And.intro (And.intro (@yEw) (@yEx)) (And.intro (@yEy) (@yEz))) (And.intro (And.intro (@yDv) (@yDw)) (And.intro (@yDx) (And.intro (@yDy) (@yDz))))) (And.intro (And.intro (And.intro (@yCv) (@yCw)) (And.intro (@yCx) (And.intro (@yCy) (@yCz)))) (And.intro (And.intro (@zSz) (@yBv)) (And.intro (@yBw) (And.intro (@yBx) (@yBy)))))) (And.intro (And.intro (And.intro (And.intro (@yBz) (@yAv)) (And.intro (@yAw) (@yAx))) (And.intro (And.intro (@yAy) (@yAz)) (And.intro (@zZv) (And.intro (@zZw) (@zZx))))) (And.intro (And.intro (And.intro (@zZy) (@zZz)) (And.intro (@zQy) (And.intro (@zSv) (@zSw)))) (And.intro (And.intro (@zQw) (@zSx)) (And.intro (@zRy) (And.intro (@zSy) (@zRw))))))))
theorem runErr (xs ys:List Int) (many:Int) (a b:AV) (h:H) (wf:Wf h) (hs:Sl h a 1 xs.length (xs.map ii)) (ht:Sl h b 1 ys.length (ys.map ii)) (hne:errRun xs ys many≠0):(om Try.prog KK).call (.fn 16 [a,b,ii many]) h = .ok (.tup [.nils,ii (errRun xs ys many)]) h:=by
  obtain ⟨f1,f2⟩:=zPv ht
  have cst : ∀ (l:List AO) (w:Nat),w≤h.clock+l.length→(om Try.prog KK).call (.fn 41 [a,b]) (X h l w) = .ok (ii (err3 xs ys)) (X h l w):=fun l w hw=>checkStart xs ys a b _ (wf.X hw) (hs.up wf l w) (ht.up wf l w)
  unfold errRun at *
  refine ySx (zMy (fn:=Try.f16) Try.func16 rfl rfl rfl rfl rfl ?_)
  simp only [zKv]
  by_cases he:err3 xs ys=0
  · rw [if_pos he] at hne ⊢
    rw [he] at cst
    by_cases h0:many<0
    · rw [if_pos h0]
      (repeat' (first
  | (with_reducible first|refine zJx ?_|refine zGw ?_|refine zFz ?_|refine zEv ?_|refine zFy ?_|refine zJw ?_|refine zGv ?_|refine zCz ?_|refine zDw ?_|refine zCy ?_|refine zCv ?_|refine zEx ?_|refine zDz ?_|refine zCx ?_|refine zBx ?_|refine zEz ?_|refine zEy ?_|refine zAw ?_|refine zBy ?_)
  | refine zDy ?_|refine zEw rfl ?_|refine zIv ?_|refine zJy ?_
  | ((first|refine zGx rfl rfl rfl rfl rfl fun K_ hK_=>?_|refine zGy rfl rfl rfl rfl rfl fun K_ hK_=>?_);simp only [zAz,zDx,zGz,↓reduceIte,reduceCtorEq,Nat.reduceEqDiff,Bool.not_true,Bool.not_false];refine hK_ _ ?_;clear hK_ K_)
  | refine zDv (by decide) ?_
  | ((try first|refine zKy rfl rfl rfl ?_|refine zIw rfl rfl ?_|refine zKx rfl rfl rfl ?_|refine zJz rfl rfl ?_);(refine zIx fun Q_ hQ_=>?_;simp (disch:=first|omega|(simp only [List.length_cons,List.length_nil,List.length_append];omega)) only [bb,bp,zKv,↓reduceIte,reduceCtorEq,Nat.reduceEqDiff,Nat.reduceLT,Nat.reduceLeDiff,Nat.reduceAdd,Nat.reduceMul,Nat.reduceSub,Nat.reduceBEq,Int.reduceToNat,cond_true,cond_false,eq_self,beq_self_eq_true,f1,f2,zFx wf,zHx wf,zBv wf,zFw wf,zAy wf,zAx,tEvZ13,zIy,zIz,zHv,zHw,zAv wf];first|(refine zCw (Q:=Q_) (fun hp_=>?_) (fun hp_=>?_) <;> first|(exfalso;omega)|(refine hQ_ _ _ ?_;clear hQ_ Q_))|(refine zBw (Q:=Q_) (fun hp_=>?_) (fun hp_=>?_) <;> first|(exfalso;omega)|(refine hQ_ _ _ ?_;clear hQ_ Q_))|(refine hQ_ _ _ ?_;clear hQ_ Q_)|(refine zOv (cst _ _ (by first|omega|(simp only [List.length_append,List.length_cons,List.length_nil];omega))) ?_;refine hQ_ _ _ ?_;clear hQ_ Q_)))
  | (refine zHz fun K_ hK_=>?_;simp (disch:=omega) only [zFv,zAz,zHy,↓reduceIte,reduceCtorEq,Nat.reduceEqDiff,Nat.reduceLT];refine hK_ _ ?_;clear hK_ K_)))
      all_goals (refine zKw _ _ rfl (ret2 (by decide) (by decide)) ?_;simp only [zAz,↓reduceIte,reduceCtorEq,Nat.reduceEqDiff];refine zLy rfl (by omega) ?_)
      all_goals exact ⟨rfl,rfl⟩
    · rw [if_neg h0] at hne ⊢
      by_cases h1:4096<many
      · rw [if_pos h1]
        (repeat' (first
  | (with_reducible first|refine zJx ?_|refine zGw ?_|refine zFz ?_|refine zEv ?_|refine zFy ?_|refine zJw ?_|refine zGv ?_|refine zCz ?_|refine zDw ?_|refine zCy ?_|refine zCv ?_|refine zEx ?_|refine zDz ?_|refine zCx ?_|refine zBx ?_|refine zEz ?_|refine zEy ?_|refine zAw ?_|refine zBy ?_)
  | refine zDy ?_|refine zEw rfl ?_|refine zIv ?_|refine zJy ?_
  | ((first|refine zGx rfl rfl rfl rfl rfl fun K_ hK_=>?_|refine zGy rfl rfl rfl rfl rfl fun K_ hK_=>?_);simp only [zAz,zDx,zGz,↓reduceIte,reduceCtorEq,Nat.reduceEqDiff,Bool.not_true,Bool.not_false];refine hK_ _ ?_;clear hK_ K_)
  | refine zDv (by decide) ?_
  | ((try first|refine zKy rfl rfl rfl ?_|refine zIw rfl rfl ?_|refine zKx rfl rfl rfl ?_|refine zJz rfl rfl ?_);(refine zIx fun Q_ hQ_=>?_;simp (disch:=first|omega|(simp only [List.length_cons,List.length_nil,List.length_append];omega)) only [bb,bp,zKv,↓reduceIte,reduceCtorEq,Nat.reduceEqDiff,Nat.reduceLT,Nat.reduceLeDiff,Nat.reduceAdd,Nat.reduceMul,Nat.reduceSub,Nat.reduceBEq,Int.reduceToNat,cond_true,cond_false,eq_self,beq_self_eq_true,f1,f2,zFx wf,zHx wf,zBv wf,zFw wf,zAy wf,zAx,tEvZ13,zIy,zIz,zHv,zHw,zAv wf];first|(refine zCw (Q:=Q_) (fun hp_=>?_) (fun hp_=>?_) <;> first|(exfalso;omega)|(refine hQ_ _ _ ?_;clear hQ_ Q_))|(refine zBw (Q:=Q_) (fun hp_=>?_) (fun hp_=>?_) <;> first|(exfalso;omega)|(refine hQ_ _ _ ?_;clear hQ_ Q_))|(refine hQ_ _ _ ?_;clear hQ_ Q_)|(refine zOv (cst _ _ (by first|omega|(simp only [List.length_append,List.length_cons,List.length_nil];omega))) ?_;refine hQ_ _ _ ?_;clear hQ_ Q_)))
  | (refine zHz fun K_ hK_=>?_;simp (disch:=omega) only [zFv,zAz,zHy,↓reduceIte,reduceCtorEq,Nat.reduceEqDiff,Nat.reduceLT];refine hK_ _ ?_;clear hK_ K_)))
        all_goals (refine zKw _ _ rfl (ret2 (by decide) (by decide)) ?_;simp only [zAz,↓reduceIte,reduceCtorEq,Nat.reduceEqDiff];refine zLy rfl (by omega) ?_)
        all_goals exact ⟨rfl,rfl⟩
      · rw [if_neg h1] at hne
        exact absurd rfl hne
  · rw [if_neg he]
    generalize err3 xs ys=e at *
    (repeat' (first
  | (with_reducible first|refine zJx ?_|refine zGw ?_|refine zFz ?_|refine zEv ?_|refine zFy ?_|refine zJw ?_|refine zGv ?_|refine zCz ?_|refine zDw ?_|refine zCy ?_|refine zCv ?_|refine zEx ?_|refine zDz ?_|refine zCx ?_|refine zBx ?_|refine zEz ?_|refine zEy ?_|refine zAw ?_|refine zBy ?_)
  | refine zDy ?_|refine zEw rfl ?_|refine zIv ?_|refine zJy ?_
  | ((first|refine zGx rfl rfl rfl rfl rfl fun K_ hK_=>?_|refine zGy rfl rfl rfl rfl rfl fun K_ hK_=>?_);simp only [zAz,zDx,zGz,↓reduceIte,reduceCtorEq,Nat.reduceEqDiff,Bool.not_true,Bool.not_false];refine hK_ _ ?_;clear hK_ K_)
  | refine zDv (by decide) ?_
  | ((try first|refine zKy rfl rfl rfl ?_|refine zIw rfl rfl ?_|refine zKx rfl rfl rfl ?_|refine zJz rfl rfl ?_);(refine zIx fun Q_ hQ_=>?_;simp (disch:=first|omega|(simp only [List.length_cons,List.length_nil,List.length_append];omega)) only [bb,bp,zKv,↓reduceIte,reduceCtorEq,Nat.reduceEqDiff,Nat.reduceLT,Nat.reduceLeDiff,Nat.reduceAdd,Nat.reduceMul,Nat.reduceSub,Nat.reduceBEq,Int.reduceToNat,cond_true,cond_false,eq_self,beq_self_eq_true,f1,f2,zFx wf,zHx wf,zBv wf,zFw wf,zAy wf,zAx,tEvZ13,zIy,zIz,zHv,zHw,zAv wf];first|(refine zCw (Q:=Q_) (fun hp_=>?_) (fun hp_=>?_) <;> first|(exfalso;omega)|(refine hQ_ _ _ ?_;clear hQ_ Q_))|(refine zBw (Q:=Q_) (fun hp_=>?_) (fun hp_=>?_) <;> first|(exfalso;omega)|(refine hQ_ _ _ ?_;clear hQ_ Q_))|(refine hQ_ _ _ ?_;clear hQ_ Q_)|(refine zOv (cst _ _ (by first|omega|(simp only [List.length_append,List.length_cons,List.length_nil];omega))) ?_;refine hQ_ _ _ ?_;clear hQ_ Q_)))
  | (refine zHz fun K_ hK_=>?_;simp (disch:=omega) only [zFv,zAz,zHy,↓reduceIte,reduceCtorEq,Nat.reduceEqDiff,Nat.reduceLT];refine hK_ _ ?_;clear hK_ K_)))
    all_goals (refine zKw _ _ rfl (ret2 (by decide) (by decide)) ?_;simp only [zAz,↓reduceIte,reduceCtorEq,Nat.reduceEqDiff];refine zLy rfl (by omega) ?_)
    all_goals exact ⟨rfl,rfl⟩
def madeI (xs ys:List Int) (many:Int):List Int:=if errRun xs ys many=0 then (mL (runS (bN (bitL xs)) (bitL xs).length (sq (bitL ys))) many.toNat).map (fun b=>((b.toNat:Nat):Int)) else []
theorem map_bi (bs:List Bool):(bs.map fun b=>((b.toNat:Nat):Int)).map ii=bs.map bi:=by rw [List.map_map];rfl
theorem run_any (xs ys:List Int) (many:Int) (a b:AV) (hcb:CapU 1 b) (h:H) (wf:Wf h) (hs:Sl h a 1 xs.length (xs.map ii)) (ht:Sl h b 1 ys.length (ys.map ii)) :
    ∃ v L,CapU 1 v∧Sl (X h L h.w) v 1 (madeI xs ys many).length ((madeI xs ys many).map ii)∧(om Try.prog KK).call (.fn 16 [a,b,ii many]) h = .ok (.tup [v,ii (errRun xs ys many)]) (X h L h.w):=by
  by_cases hne:errRun xs ys many=0
  · have h3:err3 xs ys=0:=by
      unfold errRun at hne
      split at hne
      · assumption
      · contradiction
    have hm : ¬ many<0 ∧ ¬ 4096<many:=by
      unfold errRun at hne
      rw [if_pos h3] at hne
      split at hne
      · contradiction
      · split at hne
        · contradiction
        · exact ⟨by assumption,by assumption⟩
    obtain ⟨⟨k1,k2⟩,k3,k4⟩:=err3_ok h3
    have hs':Sl h a 1 (bitL xs).length ((bitL xs).map bi):=by rw [zLz,← xBv k2];exact hs
    have ht':Sl h b 1 (bitL ys).length ((bitL ys).map bi):=by rw [zLz,← xBv k3];exact ht
    obtain ⟨L,hL,e⟩:=runOK (bitL xs) (bitL ys) (by rw [zLz];exact k1) (by rw [zLz,zLz];exact k4) many.toNat (by omega) a b h wf hs' ht' hcb xs ys (zLz xs).symm (xBv k2) (zLz ys).symm (xBv k3) h3
    rw [show ((many.toNat:Nat):Int)=many from by omega] at e
    refine ⟨_,L,capu_some (Nat.le_refl _),?_,by rw [hne];exact e⟩
    unfold madeI
    rw [if_pos hne,map_bi,List.length_map,yRw]
    exact Sl.new wf (by rw [List.length_map,yRw,Nat.mul_one]) hL
  · refine ⟨.nils,[],capd_nils.capu 1,?_,by rw [X_self];exact runErr xs ys many a b h wf hs ht hne⟩
    unfold madeI
    rw [if_neg hne]
    exact Sl.nil _ _
end Go.Proofs.Ytmincoafjnnkpaa
end

section
namespace Go.Proofs.Ytmincoafjnnkpaa
open Go.Ev
set_option maxRecDepth 100000
set_option linter.unusedSimpArgs false
set_option linter.unusedVariables false
set_option maxHeartbeats 2000000
theorem tEvZ17 :type_of% (And.intro (And.intro (And.intro (And.intro (And.intro (And.intro (And.intro (@yQx) (@yQy)) (And.intro (@yQz) (@yPv))) (And.intro (And.intro (@yPw) (@yPx)) (And.intro (@ia_2) (And.intro (@ia_3) (@ia_4))))) (And.intro (And.intro (And.intro (@ia_5) (@yPy)) (And.intro (@yPz) (@yOv))) (And.intro (And.intro (@yOw) (@yOx)) (And.intro (@yOy) (And.intro (@zRv) (@yOz)))))) (And.intro (And.intro (And.intro (And.intro (@yNv) (@yNw)) (And.intro (@yNx) (@yNy))) (And.intro (And.intro (@yNz) (@yMv)) (And.intro (@yMw) (And.intro (@yMx) (@sz_2))))) (And.intro (And.intro (And.intro (@sz_3) (@sz_4)) (And.intro (@sz_5) (And.intro (@zQv) (@zYw)))) (And.intro (And.intro (@zYx) (@zYy)) (And.intro (@zYz) (And.intro (@zXv) (@zRx))))))) (And.intro (And.intro (And.intro (And.intro (And.intro (@zXw) (@zXx)) (And.intro (@zXy) (@zQx))) (And.intro (And.intro (@zXz) (@zWv)) (And.intro (@zWw) (And.intro (@zWx) (@zWy))))) (And.intro (And.intro (And.intro (@ze_2) (@ze_3)) (And.intro (@ze_4) (And.intro (@ze_5) (@zWz)))) (And.intro (And.intro (@zVv) (@zVw)) (And.intro (@zVx) (And.intro (@zVy) (@zVz)))))) (And.intro (And.intro (And.intro (And.intro (@zUv) (@zUw)) (And.intro (@zUx) (@zUy))) (And.intro (And.intro (@zUz) (@zTv)) (And.intro (@zTw) (And.intro (@zTx) (@zTy))))) (And.intro (And.intro (And.intro (@zOy) (@zOz)) (And.intro (@zNv) (And.intro (@zNw) (@zNx)))) (And.intro (And.intro (@zNy) (@zNz)) (And.intro (@zMv) (And.intro (@zMw) (@yMy)))))))) (And.intro (And.intro (And.intro (And.intro (And.intro (And.intro (@yMz) (@yLv)) (And.intro (@yLw) (@yLx))) (And.intro (And.intro (@yLy) (@yLz)) (And.intro (@yKv) (And.intro (@yKw) (@yKx))))) (And.intro (And.intro (And.intro (@yKy) (@yKz)) (And.intro (@yJv) (@yJw))) (And.intro (And.intro (@yJx) (@yJy)) (And.intro (@yJz) (And.intro (@yIv) (@yIw)))))) (And.intro (And.intro (And.intro (And.intro (@yIx) (@yIy)) (And.intro (@yIz) (@yHv))) (And.intro (And.intro (@yHw) (@yHx)) (And.intro (@yHy) (And.intro (@yHz) (@yGv))))) (And.intro (And.intro (And.intro (@yGw) (@yGx)) (And.intro (@yGy) (And.intro (@yGz) (@yFv)))) (And.intro (And.intro (@yFw) (@yFx)) (And.intro (@yFy) (And.intro (@yFz) (@yEv))))))) (And.intro (And.intro (And.intro (And.intro (And.intro (@yEw) (@yEx)) (And.intro (@yEy) (@yEz))) (And.intro (And.intro (@yDv) (@yDw)) (And.intro (@yDx) (And.intro (@yDy) (@yDz))))) (And.intro (And.intro (And.intro (@yCv) (@yCw)) (And.intro (@yCx) (And.intro (@yCy) (@yCz)))) (And.intro (And.intro (@zSz) (@yBv)) (And.intro (@yBw) (And.intro (@yBx) (@yBy)))))) (And.intro (And.intro (And.intro (And.intro (@yBz) (@yAv)) (And.intro (@yAw) (@yAx))) (And.intro (And.intro (@yAy) (@yAz)) (And.intro (@zZv) (And.intro (@zZw) (@zZx))))) (And.intro (And.intro (And.intro (@zZy) (@zZz)) (And.intro (@zQy) (And.intro (@zSv) (@zSw)))) (And.intro (And.intro (@zQw) (@zSx)) (And.intro (@zRy) (And.intro (@zSy) (@zRw))))))))):=And.intro (And.intro (And.intro (And.intro (And.intro (And.intro (And.intro (@yQx) (@yQy)) (And.intro (@yQz) (@yPv))) (And.intro (And.intro (@yPw) (@yPx)) (And.intro (@ia_2) (And.intro (@ia_3) (@ia_4))))) (And.intro (And.intro (And.intro (@ia_5) (@yPy)) (And.intro (@yPz) (@yOv))) (And.intro (And.intro (@yOw) (@yOx)) (And.intro (@yOy) (And.intro (@zRv) (@yOz)))))) (And.intro (And.intro (And.intro (And.intro (@yNv) (@yNw)) (And.intro (@yNx) (@yNy))) (And.intro (And.intro (@yNz) (@yMv)) (And.intro (@yMw) (And.intro (@yMx) (@sz_2))))) (And.intro (And.intro (And.intro (@sz_3) (@sz_4)) (And.intro (@sz_5) (And.intro (@zQv) (@zYw)))) (And.intro (And.intro (@zYx) (@zYy)) (And.intro (@zYz) (And.intro (@zXv) (@zRx))))))) (And.intro (And.intro (And.intro (And.intro (And.intro (@zXw) (@zXx)) (And.intro (@zXy) (@zQx))) (And.intro (And.intro (@zXz) (@zWv)) (And.intro (@zWw) (And.intro (@zWx) (@zWy))))) (And.intro (And.intro (And.intro (@ze_2) (@ze_3)) (And.intro (@ze_4) (And.intro (@ze_5) (@zWz)))) (And.intro (And.intro (@zVv) (@zVw)) (And.intro (@zVx) (And.intro (@zVy) (@zVz)))))) (And.intro (And.intro (And.intro (And.intro (@zUv) (@zUw)) (And.intro (@zUx) (@zUy))) (And.intro (And.intro (@zUz) (@zTv)) (And.intro (@zTw) (And.intro (@zTx) (@zTy))))) (And.intro (And.intro (And.intro (@zOy) (@zOz)) (And.intro (@zNv) (And.intro (@zNw) (@zNx)))) (And.intro (And.intro (@zNy) (@zNz)) (And.intro (@zMv) (And.intro (@zMw) (@yMy)))))))) (And.intro (And.intro (And.intro (And.intro (And.intro (And.intro (@yMz) (@yLv)) (And.intro (@yLw) (@yLx))) (And.intro (And.intro (@yLy) (@yLz)) (And.intro (@yKv) (And.intro (@yKw) (@yKx))))) (And.intro (And.intro (And.intro (@yKy) (@yKz)) (And.intro (@yJv) (@yJw))) (And.intro (And.intro (@yJx) (@yJy)) (And.intro (@yJz) (And.intro (@yIv) (@yIw)))))) (And.intro (And.intro (And.intro (And.intro (@yIx) (@yIy)) (And.intro (@yIz) (@yHv))) (And.intro (And.intro (@yHw) (@yHx)) (And.intro (@yHy) (And.intro (@yHz) (@yGv))))) (And.intro (And.intro (And.intro (@yGw) (@yGx)) (And.intro (@yGy) (And.intro (@yGz) (@yFv)))) (And.intro (And.intro (@yFw) (@yFx)) (And.intro (@yFy) (And.intro (@yFz) (@yEv))))))) (And.intro (And.intro (And.intro (And.intro (And.intro (@yEw) (@yEx)) (And.intro (@yEy) (@yEz))) (And.intro (And.intro (@yDv) (@yDw)) (And.intro (@yDx) (And.intro (@yDy) (@yDz))))) (And.intro (And.intro (And.intro (@yCv) (@yCw)) (And.intro (@yCx) (And.intro (@yCy) (@yCz)))) (And.intro (And.intro (@zSz) (@yBv)) (And.intro (@yBw) (And.intro (@yBx) (@yBy)))))) (And.intro (And.intro (And.intro (And.intro (@yBz) (@yAv)) (And.intro (@yAw) (@yAx))) (And.intro (And.intro (@yAy) (@yAz)) (And.intro (@zZv) (And.intro (@zZw) (@zZx))))) (And.intro (And.intro (And.intro (@zZy) (@zZz)) (And.intro (@zQy) (And.intro (@zSv) (@zSw)))) (And.intro (And.intro (@zQw) (@zSx)) (And.intro (@zRy) (And.intro (@zSy) (@zRw))))))))
theorem xHy {xs:List Int} (h:errB xs=0):xs.length≤128∧xs.map ii=(bitL xs).map bi:=⟨(xUw.1 h).1,xBv (xUw.1 h).2⟩
def tapI (T L:Nat):List Int:=(bitsL T L).map (fun b=>((b.toNat:Nat):Int))
theorem fine (xs:List Int) (a:AV) (h:H) (wf:Wf h) (hs:Sl h a 1 xs.length (xs.map ii)):(om Try.prog KK).call (.fn 37 [a]) h = .ok (.bool (decide (errB xs=0))) h:=by
  obtain ⟨f1,f2⟩:=zPv hs
  have c1 : ∀ (l:List AO) (w:Nat),w≤h.clock+l.length→(om Try.prog KK).call (.fn 19 [a]) (X h l w) = .ok (ii (errB xs)) (X h l w):=fun l w hw=>rcheckBits xs a _ (wf.X hw) (hs.up wf l w)
  generalize errB xs=e at *
  refine ySx (zMy (fn:=Try.f37) Try.func37 rfl rfl rfl rfl rfl ?_)
  simp only [zKv]
  (repeat' (first
  | (with_reducible first|refine zJx ?_|refine zGw ?_|refine zFz ?_|refine zEv ?_|refine zFy ?_|refine zJw ?_|refine zGv ?_|refine zCz ?_|refine zDw ?_|refine zCy ?_|refine zCv ?_|refine zEx ?_|refine zDz ?_|refine zCx ?_|refine zBx ?_|refine zEz ?_|refine zEy ?_|refine zAw ?_|refine zBy ?_)
  | refine zDy ?_|refine zEw rfl ?_|refine zIv ?_|refine zJy ?_
  | ((first|refine zGx rfl rfl rfl rfl rfl fun K_ hK_=>?_|refine zGy rfl rfl rfl rfl rfl fun K_ hK_=>?_);simp only [zAz,zDx,zGz,↓reduceIte,reduceCtorEq,Nat.reduceEqDiff,Bool.not_true,Bool.not_false];refine hK_ _ ?_;clear hK_ K_)
  | refine zDv (by decide) ?_
  | ((try first|refine zKy rfl rfl rfl ?_|refine zIw rfl rfl ?_|refine zKx rfl rfl rfl ?_|refine zJz rfl rfl ?_);(refine zIx fun Q_ hQ_=>?_;simp (disch:=first|omega|(simp only [List.length_cons,List.length_nil,List.length_append];omega)) only [bb,bp,zKv,↓reduceIte,reduceCtorEq,Nat.reduceEqDiff,Nat.reduceLT,Nat.reduceLeDiff,Nat.reduceAdd,Nat.reduceMul,Nat.reduceSub,Nat.reduceBEq,Int.reduceToNat,cond_true,cond_false,eq_self,beq_self_eq_true,f1,f2,zFx wf,zHx wf,zBv wf,zFw wf,zAy wf,zAx,tEvZ17,zIy,zIz,zHv,zHw,zAv wf];first|(refine zCw (Q:=Q_) (fun hp_=>?_) (fun hp_=>?_) <;> first|(exfalso;omega)|(refine hQ_ _ _ ?_;clear hQ_ Q_))|(refine zBw (Q:=Q_) (fun hp_=>?_) (fun hp_=>?_) <;> first|(exfalso;omega)|(refine hQ_ _ _ ?_;clear hQ_ Q_))|(refine hQ_ _ _ ?_;clear hQ_ Q_)|(refine zOv (c1 _ _ (by first|omega|(simp only [List.length_append,List.length_cons,List.length_nil];omega))) ?_;refine hQ_ _ _ ?_;clear hQ_ Q_)))
  | (refine zHz fun K_ hK_=>?_;simp (disch:=omega) only [zFv,zAz,zHy,↓reduceIte,reduceCtorEq,Nat.reduceEqDiff,Nat.reduceLT];refine hK_ _ ?_;clear hK_ K_)))
  all_goals (refine zKw _ _ rfl (ret1 (by decide)) ?_;simp only [zAz,↓reduceIte,reduceCtorEq,Nat.reduceEqDiff];refine zLy rfl (by omega) ?_)
  all_goals exact ⟨by simp [*],rfl⟩
end Go.Proofs.Ytmincoafjnnkpaa
end

section
namespace Go.Proofs.Ytmincoafjnnkpaa
open Go.Ev
set_option maxRecDepth 100000
set_option linter.unusedSimpArgs false
set_option linter.unusedVariables false
set_option maxHeartbeats 2000000
def addI (xs ys:List Int):List Int:=(List.range (min xs.length ys.length)).map fun i=>((((sq (bitL xs) i ^^ sq (bitL ys) i).toNat:Nat)):Int)
def addN (xs ys:List Int) (n:Nat):List AV:=(List.range n).map fun i=>bi (sq (bitL xs) i ^^ sq (bitL ys) i)
theorem add_bi (x y:Bool):(((x.toNat:Nat):Int)+((y.toNat:Nat):Int)).tmod 2=(((x ^^ y).toNat:Nat):Int):=by cases x <;> cases y <;> rfl
end Go.Proofs.Ytmincoafjnnkpaa
end

section
namespace Go.Proofs.Ytmincoafjnnkpaa
open Go.Ev
set_option maxRecDepth 100000
set_option linter.unusedSimpArgs false
set_option linter.unusedVariables false
set_option maxHeartbeats 2000000
theorem conv_u8 {n:Int} (hn:0≤n∧n≤255):convE Try.prog 5 3 (.int .u8 n)=some (.int .i64 n):=by
  rw [c_int Try.underlying5 Try.underlying3]
  rw [wrap_in _ (by omega) (by omega)]
end Go.Proofs.Ytmincoafjnnkpaa
end

section
namespace Go.Ev
def sm :Nat→(Nat→Int)→Int
  | 0,_=>0
  | n+1,f=>sm n f+f n
def cy (n i k:Nat):Nat:=if i+k<n then i+k else i+k - n
def ee (b:Bool):Int:=if b then -1 else 1
theorem ee_cnt (f:Nat→Bool) : ∀ n:Nat,(n:Int) - 2 * (cnt n f:Int)=sm n (fun i=>ee (f i))
  | 0=>rfl
  | n+1=>by
    have:=ee_cnt f n
    show ((n+1:Nat):Int) - 2 * ((cnt n f+(f n).toNat:Nat):Int)=sm n (fun i=>ee (f i))+ee (f n)
    rw [← this]
    cases f n <;> simp [ee] <;> omega
def sp (n:Nat) (s:Nat→Bool) (k:Nat):Int:=sm n (fun i=>ee (s i ^^ s (cy n i k)))
theorem sp_cnt (n:Nat) (s:Nat→Bool) (k:Nat):sp n s k=(n:Int) - 2 * (cnt n (fun i=>s i ^^ s (cy n i k)):Int):=(ee_cnt _ n).symm
theorem turn_bits {n k:Nat} (bs:List Bool) (hl:bs.length=n) (hn:n≤128) (hk:k<n) {i:Nat} (hi:i<128):(bN bs ^^^ (((bN bs >>> k) ^^^ ((bN bs <<< (n - k)) % 2 ^ 128)) % 2 ^ n)).testBit i=(decide (i<n) && (bs.getD i false ^^ bs.getD (cy n i k) false)):=by
  have hout : ∀ j,n≤j→bs.getD j false=false:=fun j hj=>by rw [List.getD_eq_getElem?_getD,List.getElem?_eq_none (by omega)];rfl
  rw [Nat.testBit_xor,Nat.testBit_mod_two_pow,Nat.testBit_xor,Nat.testBit_shiftRight,Nat.testBit_mod_two_pow,Nat.testBit_shiftLeft,xRw,xRw,xRw]
  by_cases h1:i<n
  · rw [decide_eq_true h1,Bool.true_and,Bool.true_and]
    congr 1
    unfold cy
    by_cases h2:i+k<n
    · rw [if_pos h2,decide_eq_false (by omega : ¬ i ≥ n - k),Nat.add_comm]
      simp
    · rw [if_neg h2,decide_eq_true (by omega:i ≥ n - k),decide_eq_true hi,hout (k+i) (by omega)]
      simp
      rw [show i - (n - k)=i+k - n by omega]
  · rw [decide_eq_false h1,hout i (by omega)]
    rfl
theorem turn_cnt {n k:Nat} (bs:List Bool) (hl:bs.length=n) (hn:n≤128) (hk:k<n):cnt 128 (bN bs ^^^ (((bN bs >>> k) ^^^ ((bN bs <<< (n - k)) % 2 ^ 128)) % 2 ^ n)).testBit=cnt n (fun i=>bs.getD i false ^^ bs.getD (cy n i k) false):=by
  have e:cnt 128 (bN bs ^^^ (((bN bs >>> k) ^^^ ((bN bs <<< (n - k)) % 2 ^ 128)) % 2 ^ n)).testBit=cnt 128 (fun i=>decide (i<n) && (bs.getD i false ^^ bs.getD (cy n i k) false)):=xHx fun i hi=>turn_bits bs hl hn hk hi
  rw [e,show 128=n+(128 - n) by omega,xAy]
  have e1:cnt n (fun i=>decide (i<n) && (bs.getD i false ^^ bs.getD (cy n i k) false))=cnt n (fun i=>bs.getD i false ^^ bs.getD (cy n i k) false):=xHx fun i hi=>by rw [decide_eq_true hi];rfl
  have e2 : ∀ m,cnt m (fun i=>decide (n+i<n) && (bs.getD (n+i) false ^^ bs.getD (cy n (n+i) k) false))=0:=fun m=>by
    induction m with
    | zero=>rfl
    | succ m ih=>
      show cnt m _+(decide (n+m<n) && _).toNat=0
      rw [ih,decide_eq_false (by omega : ¬ n+m<n)];rfl
  rw [e1,e2,Nat.add_zero]
end Go.Ev
end

section
namespace Go.Proofs.Ytmincoafjnnkpaa
open Go.Ev
set_option maxRecDepth 100000
set_option linter.unusedSimpArgs false
set_option linter.unusedVariables false
set_option maxHeartbeats 2000000
theorem tEvZ26 :type_of% (And.intro (And.intro (And.intro (And.intro (And.intro (And.intro (And.intro (@yQx) (@yQy)) (And.intro (@yQz) (@yPv))) (And.intro (And.intro (@yPw) (@yPx)) (And.intro (@ia_2) (And.intro (@ia_3) (@ia_4))))) (And.intro (And.intro (And.intro (@ia_5) (@yPy)) (And.intro (@yPz) (@yOv))) (And.intro (And.intro (@yOw) (@yOx)) (And.intro (@yOy) (And.intro (@zRv) (@yOz)))))) (And.intro (And.intro (And.intro (And.intro (@yNv) (@yNw)) (And.intro (@yNx) (@yNy))) (And.intro (And.intro (@yNz) (@yMv)) (And.intro (@yMw) (And.intro (@yMx) (@sz_2))))) (And.intro (And.intro (And.intro (@sz_3) (@sz_4)) (And.intro (@sz_5) (And.intro (@zQv) (@zYw)))) (And.intro (And.intro (@zYx) (@zYy)) (And.intro (@zYz) (And.intro (@zXv) (@zRx))))))) (And.intro (And.intro (And.intro (And.intro (And.intro (@zXw) (@zXx)) (And.intro (@zXy) (@zQx))) (And.intro (And.intro (@zXz) (@zWv)) (And.intro (@zWw) (And.intro (@zWx) (@zWy))))) (And.intro (And.intro (And.intro (@ze_2) (@ze_3)) (And.intro (@ze_4) (And.intro (@ze_5) (@zWz)))) (And.intro (And.intro (@zVv) (@zVw)) (And.intro (@zVx) (And.intro (@zVy) (@zVz)))))) (And.intro (And.intro (And.intro (And.intro (@zUv) (@zUw)) (And.intro (@zUx) (@zUy))) (And.intro (And.intro (@zUz) (@zTv)) (And.intro (@zTw) (And.intro (@zTx) (@zTy))))) (And.intro (And.intro (And.intro (@zOy) (@zOz)) (And.intro (@zNv) (And.intro (@zNw) (@zNx)))) (And.intro (And.intro (@zNy) (@zNz)) (And.intro (@zMv) (And.intro (@zMw) (@yMy)))))))) (And.intro (And.intro (And.intro (And.intro (And.intro (And.intro (@yMz) (@yLv)) (And.intro (@yLw) (@yLx))) (And.intro (And.intro (@yLy) (@yLz)) (And.intro (@yKv) (And.intro (@yKw) (@yKx))))) (And.intro (And.intro (And.intro (@yKy) (@yKz)) (And.intro (@yJv) (@yJw))) (And.intro (And.intro (@yJx) (@yJy)) (And.intro (@yJz) (And.intro (@yIv) (@yIw)))))) (And.intro (And.intro (And.intro (And.intro (@yIx) (@yIy)) (And.intro (@yIz) (@yHv))) (And.intro (And.intro (@yHw) (@yHx)) (And.intro (@yHy) (And.intro (@yHz) (@yGv))))) (And.intro (And.intro (And.intro (@yGw) (@yGx)) (And.intro (@yGy) (And.intro (@yGz) (@yFv)))) (And.intro (And.intro (@yFw) (@yFx)) (And.intro (@yFy) (And.intro (@yFz) (@yEv))))))) (And.intro (And.intro (And.intro (And.intro (And.intro (@yEw) (@yEx)) (And.intro (@yEy) (@yEz))) (And.intro (And.intro (@yDv) (@yDw)) (And.intro (@yDx) (And.intro (@yDy) (@yDz))))) (And.intro (And.intro (And.intro (@yCv) (@yCw)) (And.intro (@yCx) (And.intro (@yCy) (@yCz)))) (And.intro (And.intro (@zSz) (@yBv)) (And.intro (@yBw) (And.intro (@yBx) (@yBy)))))) (And.intro (And.intro (And.intro (And.intro (@yBz) (@yAv)) (And.intro (@yAw) (@yAx))) (And.intro (And.intro (@yAy) (@yAz)) (And.intro (@zZv) (And.intro (@zZw) (@zZx))))) (And.intro (And.intro (And.intro (@zZy) (@zZz)) (And.intro (@zQy) (And.intro (@zSv) (@zSw)))) (And.intro (And.intro (@zQw) (@zSx)) (And.intro (@zRy) (And.intro (@zSy) (@zRw))))))))):=And.intro (And.intro (And.intro (And.intro (And.intro (And.intro (And.intro (@yQx) (@yQy)) (And.intro (@yQz) (@yPv))) (And.intro (And.intro (@yPw) (@yPx)) (And.intro (@ia_2) (And.intro (@ia_3) (@ia_4))))) (And.intro (And.intro (And.intro (@ia_5) (@yPy)) (And.intro (@yPz) (@yOv))) (And.intro (And.intro (@yOw) (@yOx)) (And.intro (@yOy) (And.intro (@zRv) (@yOz)))))) (And.intro (And.intro (And.intro (And.intro (@yNv) (@yNw)) (And.intro (@yNx) (@yNy))) (And.intro (And.intro (@yNz) (@yMv)) (And.intro (@yMw) (And.intro (@yMx) (@sz_2))))) (And.intro (And.intro (And.intro (@sz_3) (@sz_4)) (And.intro (@sz_5) (And.intro (@zQv) (@zYw)))) (And.intro (And.intro (@zYx) (@zYy)) (And.intro (@zYz) (And.intro (@zXv) (@zRx))))))) (And.intro (And.intro (And.intro (And.intro (And.intro (@zXw) (@zXx)) (And.intro (@zXy) (@zQx))) (And.intro (And.intro (@zXz) (@zWv)) (And.intro (@zWw) (And.intro (@zWx) (@zWy))))) (And.intro (And.intro (And.intro (@ze_2) (@ze_3)) (And.intro (@ze_4) (And.intro (@ze_5) (@zWz)))) (And.intro (And.intro (@zVv) (@zVw)) (And.intro (@zVx) (And.intro (@zVy) (@zVz)))))) (And.intro (And.intro (And.intro (And.intro (@zUv) (@zUw)) (And.intro (@zUx) (@zUy))) (And.intro (And.intro (@zUz) (@zTv)) (And.intro (@zTw) (And.intro (@zTx) (@zTy))))) (And.intro (And.intro (And.intro (@zOy) (@zOz)) (And.intro (@zNv) (And.intro (@zNw) (@zNx)))) (And.intro (And.intro (@zNy) (@zNz)) (And.intro (@zMv) (And.intro (@zMw) (@yMy)))))))) (And.intro (And.intro (And.intro (And.intro (And.intro (And.intro (@yMz) (@yLv)) (And.intro (@yLw) (@yLx))) (And.intro (And.intro (@yLy) (@yLz)) (And.intro (@yKv) (And.intro (@yKw) (@yKx))))) (And.intro (And.intro (And.intro (@yKy) (@yKz)) (And.intro (@yJv) (@yJw))) (And.intro (And.intro (@yJx) (@yJy)) (And.intro (@yJz) (And.intro (@yIv) (@yIw)))))) (And.intro (And.intro (And.intro (And.intro (@yIx) (@yIy)) (And.intro (@yIz) (@yHv))) (And.intro (And.intro (@yHw) (@yHx)) (And.intro (@yHy) (And.intro (@yHz) (@yGv))))) (And.intro (And.intro (And.intro (@yGw) (@yGx)) (And.intro (@yGy) (And.intro (@yGz) (@yFv)))) (And.intro (And.intro (@yFw) (@yFx)) (And.intro (@yFy) (And.intro (@yFz) (@yEv))))))) (And.intro (And.intro (And.intro (And.intro (And.intro (@yEw) (@yEx)) (And.intro (@yEy) (@yEz))) (And.intro (And.intro (@yDv) (@yDw)) (And.intro (@yDx) (And.intro (@yDy) (@yDz))))) (And.intro (And.intro (And.intro (@yCv) (@yCw)) (And.intro (@yCx) (And.intro (@yCy) (@yCz)))) (And.intro (And.intro (@zSz) (@yBv)) (And.intro (@yBw) (And.intro (@yBx) (@yBy)))))) (And.intro (And.intro (And.intro (And.intro (@yBz) (@yAv)) (And.intro (@yAw) (@yAx))) (And.intro (And.intro (@yAy) (@yAz)) (And.intro (@zZv) (And.intro (@zZw) (@zZx))))) (And.intro (And.intro (And.intro (@zZy) (@zZz)) (And.intro (@zQy) (And.intro (@zSv) (@zSw)))) (And.intro (And.intro (@zQw) (@zSx)) (And.intro (@zRy) (And.intro (@zSy) (@zRw))))))))
def spL (bs:List Bool) (m:Nat):List Int:=(List.range m).map fun k=>sp bs.length (sq bs) k
theorem spL_succ (bs:List Bool) (m:Nat):spL bs (m+1)=spL bs m++[sp bs.length (sq bs) m]:=by unfold spL;rw [List.range_succ,List.map_append];rfl
theorem spL_len (bs:List Bool) (m:Nat):(spL bs m).length=m:=by unfold spL;simp
theorem spectrum (xs:List Int) (he:errB xs=0) (h0:0<xs.length) (a:AV) (h:H) (wf:Wf h) (hs:Sl h a 1 xs.length (xs.map ii)) :
    ∃ M:List AO,M[1]? = some (.cells (zBz ((spL (bitL xs) xs.length).map ii)) 3)∧(om Try.prog KK).call (.fn 34 [a]) h = .ok (.tup [.sl (nx h 1) 0 xs.length (some xs.length) 1,ii 0]) (X h M h.w):=by
  suffices hW:WV ((om Try.prog KK).call (.fn 34 [a]) h) fun r h'=>∃ M:List AO,M[1]? = some (.cells (zBz ((spL (bitL xs) xs.length).map ii)) 3)∧r = .tup [.sl (nx h 1) 0 xs.length (some xs.length) 1,ii 0]∧h'=X h M h.w by
    obtain ⟨r,h',e,M,h1,rfl,rfl⟩:=hW
    exact ⟨M,h1,e⟩
  obtain ⟨hx1,hx2⟩:=xHy he
  have hxl:=zLz xs
  have hs':Sl h a 1 (bitL xs).length ((bitL xs).map bi):=by rw [zLz,← hx2];exact hs
  have hl : ∀ h',lenE Try.prog 22 a h'=some (ii (xs.length:Int)):=fun h'=>hs.len yTx
  obtain ⟨f1,f2⟩:=zPv hs
  have c1 : ∀ (l:List AO) (w:Nat),w≤h.clock+l.length→(om Try.prog KK).call (.fn 18 [a]) (X h l w) = .ok (ii 0) (X h l w):=fun l w hw=>by rw [checkBits xs a _ (wf.X hw) (hs.up wf l w),he]
  have hN:bN (bitL xs)<2 ^ 128:=bN_lt128 (by omega)
  have hcn : ∀ k,k<xs.length→_:=fun k hk=>turn_cnt (k:=k) (bitL xs) hxl (by omega) hk
  have hsp : ∀ k,(xs.length:Int) - 2 * (cnt xs.length (fun i=>sq (bitL xs) i ^^ sq (bitL xs) (cy xs.length i k)):Int)=sp xs.length (sq (bitL xs)) k:=fun k=>(sp_cnt _ _ _).symm
  have c2 : ∀ (l:List AO) (w:Nat),w≤h.clock+l.length→(om Try.prog KK).call (.fn 53 [a]) (X h l w) = .ok (.agg (wd (bN (bitL xs)))) (X h l w):=fun l w hw=>wordsOf (bitL xs) (by omega) a _ (wf.X hw) (hs'.up wf l w)
  have ctu : ∀ k,k<xs.length → ∀ (l:List AO) (w:Nat),w≤h.clock+l.length→(om Try.prog KK).call (.fn 64 [.agg (wd (bN (bitL xs))),ii (xs.length:Int),ii (k:Int)]) (X h l w) = .ok (.agg (wd (((bN (bitL xs) >>> k) ^^^ ((bN (bitL xs) <<< (xs.length - k)) % 2 ^ 128)) % 2 ^ xs.length))) (X h l w):=fun k hk l w hw=>turned (bN (bitL xs)) xs.length k hN (by omega) hx1 _ (wf.X hw)
  have hRlt : ∀ k,((bN (bitL xs) >>> k) ^^^ ((bN (bitL xs) <<< (xs.length - k)) % 2 ^ 128)) % 2 ^ xs.length<2 ^ 128:=fun k=>Nat.lt_of_lt_of_le (Nat.mod_lt _ (Nat.two_pow_pos _)) (Nat.pow_le_pow_right (by decide) hx1)
  have hmk : ∀ l w,makeSliceE Try.prog 22 (.int .i64 (xs.length:Int)) (.int .i64 (xs.length:Int)) (X h l w) = .ok (.sl (nx h l.length) 0 xs.length (some xs.length) 1) (X h (l++[.cells (zBz (List.replicate xs.length (.int .i64 0))) 3]) w):=
    fun l w=>xPv wf yTx sz_3 el_3 (by omega) (by decide) rfl
  have hlm : ∀ h',lenE Try.prog 22 (.sl (nx h 1) 0 xs.length (some xs.length) 1) h'=some (ii (xs.length:Int)):=fun h'=>by unfold lenE;rw [yTx];rfl
  have hne : ¬ (xs.length:Int)=0:=by omega
  generalize bN (bitL xs)=N at *
  refine zMy (fn:=Try.f34) Try.func34 rfl rfl rfl rfl rfl ?_
  simp only [zKv]
  unfold wd at c2 ctu
  (repeat' (first
  | (with_reducible first|refine zJx ?_|refine zGw ?_|refine zFz ?_|refine zEv ?_|refine zFy ?_|refine zJw ?_|refine zGv ?_|refine zCz ?_|refine zDw ?_|refine zCy ?_|refine zCv ?_|refine zEx ?_|refine zDz ?_|refine zCx ?_|refine zBx ?_|refine zEz ?_|refine zEy ?_|refine zAw ?_|refine zBy ?_)
  | refine zDy ?_|refine zEw rfl ?_|refine zIv ?_|refine zJy ?_
  | ((first|refine zGx rfl rfl rfl rfl rfl fun K_ hK_=>?_|refine zGy rfl rfl rfl rfl rfl fun K_ hK_=>?_);simp only [zAz,zDx,zGz,↓reduceIte,reduceCtorEq,Nat.reduceEqDiff,Bool.not_true,Bool.not_false];refine hK_ _ ?_;clear hK_ K_)
  | refine zDv (by decide) ?_
  | ((try first|refine zKy rfl rfl rfl ?_|refine zIw rfl rfl ?_|refine zKx rfl rfl rfl ?_|refine zJz rfl rfl ?_);(refine zIx fun Q_ hQ_=>?_;simp (disch:=first|omega|(simp only [List.length_cons,List.length_nil,List.length_append];omega)) only [bb,bp,zKv,↓reduceIte,reduceCtorEq,Nat.reduceEqDiff,Nat.reduceLT,Nat.reduceLeDiff,Nat.reduceAdd,Nat.reduceMul,Nat.reduceSub,Nat.reduceBEq,Int.reduceToNat,cond_true,cond_false,eq_self,beq_self_eq_true,hl,hlm,hmk,f1,f2,zFx wf,zHx wf,zBv wf,zFw wf,zAy wf,zAx,tEvZ26,zIy,zIz,zHv,zHw,zAv wf];first|(refine zCw (Q:=Q_) (fun hp_=>?_) (fun hp_=>?_) <;> first|(exfalso;omega)|(refine hQ_ _ _ ?_;clear hQ_ Q_))|(refine zBw (Q:=Q_) (fun hp_=>?_) (fun hp_=>?_) <;> first|(exfalso;omega)|(refine hQ_ _ _ ?_;clear hQ_ Q_))|(refine hQ_ _ _ ?_;clear hQ_ Q_)|(refine zOv (c1 _ _ (by first|omega|(simp only [List.length_append,List.length_cons,List.length_nil];omega))) ?_;refine hQ_ _ _ ?_;clear hQ_ Q_)|(refine zOv (c2 _ _ (by first|omega|(simp only [List.length_append,List.length_cons,List.length_nil];omega))) ?_;refine hQ_ _ _ ?_;clear hQ_ Q_)))
  | (refine zHz fun K_ hK_=>?_;simp (disch:=omega) only [zFv,zAz,zHy,↓reduceIte,reduceCtorEq,Nat.reduceEqDiff,Nat.reduceLT];refine hK_ _ ?_;clear hK_ K_)))
  refine zOw (α:=Nat) (fun (i:Nat) f d h'=>i≤xs.length∧f 5=ii (xs.length:Int)∧f 6 = .ptr (nx h 0) 0∧f 7 = .fn 64 [.agg [uu (N % 2 ^ 64),uu (N >>> 64)]] []∧f 8 = .sl (nx h 1) 0 xs.length (some xs.length) 1∧f 27=ii (xs.length:Int)∧f 28=ii (i:Int)∧d=[] ∧
    ∃ G w,h.clock≤w∧w≤h.clock+2+G.length∧h'=X h (.cells (zBz [uu (N % 2 ^ 64),uu (N >>> 64)]) 57 :: .cells (zBz ((spL (bitL xs) i).map ii++List.replicate (xs.length - i) (.int .i64 0))) 3 :: G) w) (fun i=>xs.length - i) ?_ (xs.length+1) 0 (by omega) ?_
  · rintro i f d h' ⟨hi,g5,g6,g7,g8,g27,g28,rfl,G,w,hw,hw2,rfl⟩
    by_cases hlt:i<xs.length
    · have ct:=ctu i hlt
      have hR:=hRlt i
      have hcni:=hcn i hlt
      have hspi:=hsp i
      rw [← hxl] at hspi
      generalize ((N >>> i) ^^^ ((N <<< (xs.length - i)) % 2 ^ 128)) % 2 ^ xs.length=R at *
      have hx3:N ^^^ R<2 ^ 128:=Nat.xor_lt_two_pow hN hR
      have c3 : ∀ (o1 o2:AO) w,w≤h.clock+(G.length+3)→(om Try.prog KK).call (.fn 65 [.sl (nx h (G.length+1+1)) 0 2 (some 2) 2]) (X h (o1 :: o2 :: (G++[.cells (zBz [uu (N % 2 ^ 64),uu (N >>> 64),uu (R % 2 ^ 64),uu (R >>> 64)]) 57])) w) = .ok (.agg [uu ((N ^^^ R) % 2 ^ 64),uu ((N ^^^ R) >>> 64)]) (X h (o1 :: o2 :: (G++[.cells (zBz [uu (N % 2 ^ 64),uu (N >>> 64),uu (R % 2 ^ 64),uu (R >>> 64)]) 57])) w):=fun o1 o2 w hw=>by
        have:=sum [N,R] (by intro K hK;simp at hK;rcases hK with rfl|rfl <;> assumption) (by simp) (.sl (nx h (G.length+1+1)) 0 2 (some 2) 2) _ (wf.X (l:=o1 :: o2 :: (G++[.cells (zBz [uu (N % 2 ^ 64),uu (N >>> 64),uu (R % 2 ^ 64),uu (R >>> 64)]) 57])) (w:=w) (by simp only [List.length_cons,List.length_append,List.length_nil];omega)) (Sl.new (k:=G.length+1+1) (e:=57) wf rfl (by rw [List.getElem?_cons_succ,List.getElem?_cons_succ,List.getElem?_append_right (Nat.le_refl _),Nat.sub_self];rfl))
        rw [xall2] at this
        exact this
      have c4 : ∀ (l:List AO) (w:Nat),w≤h.clock+l.length→(om Try.prog KK).call (.fn 66 [.agg [uu ((N ^^^ R) % 2 ^ 64),uu ((N ^^^ R) >>> 64)]]) (X h l w) = .ok (ii (cnt 128 (N ^^^ R).testBit:Nat)) (X h l w):=fun l w hw=>ones _ hx3 _ (wf.X hw)
      have hcb:=xFw (N ^^^ R).testBit 128
      have hval:(xs.length:Int) - 2 * ((cnt 128 (N ^^^ R).testBit:Nat):Int)=sp (bitL xs).length (sq (bitL xs)) i:=by
        rw [hxl,← hsp i,hcni]
      generalize cnt 128 (N ^^^ R).testBit=C at *
      have hia:indexAddrE Try.prog 22 (.sl (nx h 1) 0 xs.length (some xs.length) 1) (.int .i64 (i:Int))=some (.ptr (nx h 1) i):=by
        have ht:toNatE (.int .i64 (i:Int))=some i:=by rw [yVv (by omega),Int.toNat_natCast]
        simp only [yQv,ht,zQy,yVz hlt,Nat.zero_add,Nat.mul_one]
      have e5:List.replicate (xs.length - i) (AV.int .i64 0) = .int .i64 0 :: List.replicate (xs.length - (i+1)) (.int .i64 0):=by
        rw [show xs.length - i=xs.length - (i+1)+1 by omega,List.replicate_succ]
      have e6:(spL (bitL xs) (i+1)).map ii=(spL (bitL xs) i).map ii++[ii (sp (bitL xs).length (sq (bitL xs)) i)]:=by rw [spL_succ,List.map_append];rfl
      have hCl:((spL (bitL xs) i).map ii).length=i:=by rw [List.length_map,spL_len]
      rw [e5]
      generalize hCC:(spL (bitL xs) i).map ii=CC at *
      generalize hRR:List.replicate (xs.length - (i+1)) (AV.int .i64 0)=RR at *
      generalize sp (bitL xs).length (sq (bitL xs)) i=spv at *
      have hst : ∀ (o:AO) (l:List AO) w,store1 (nx h 1) i (ii spv) (X h (o :: .cells (zBz (CC ++ .int .i64 0 :: RR)) 3 :: l) w)=some (X h (o :: .cells (zBz ((CC++[ii spv])++RR)) 3 :: l) (min (h.clock+1) w)):=fun o l w=>by
        have e:storeAt (some (.cells (zBz (CC ++ .int .i64 0 :: RR)) 3)) i (ii spv)=some (.cells (zBz ((CC++[ii spv])++RR)) 3):=by
          rw [yVx,show oneB (ii spv)=true from rfl,cond_true,if_pos (by simp;omega),← hCl,List.set_append_right _ _ (Nat.le_refl _),Nat.sub_self,List.set_cons_zero,List.append_assoc];rfl
        rw [zFw wf]
        show (match storeAt (some (.cells (zBz (CC ++ .int .i64 0 :: RR)) 3)) i (ii spv) with|some o'=>_|none=>_)=_
        rw [e]
        rfl
      (repeat' (first
  | (with_reducible first|refine zJx ?_|refine zGw ?_|refine zFz ?_|refine zEv ?_|refine zFy ?_|refine zJw ?_|refine zGv ?_|refine zCz ?_|refine zDw ?_|refine zCy ?_|refine zCv ?_|refine zEx ?_|refine zDz ?_|refine zCx ?_|refine zBx ?_|refine zEz ?_|refine zEy ?_|refine zAw ?_|refine zBy ?_)
  | refine zDy ?_|refine zEw rfl ?_|refine zIv ?_|refine zJy ?_
  | ((first|refine zGx rfl rfl rfl rfl rfl fun K_ hK_=>?_|refine zGy rfl rfl rfl rfl rfl fun K_ hK_=>?_);simp only [zAz,zDx,zGz,↓reduceIte,reduceCtorEq,Nat.reduceEqDiff,Bool.not_true,Bool.not_false];refine hK_ _ ?_;clear hK_ K_)
  | refine zDv (by decide) ?_
  | ((try first|refine zKy rfl rfl rfl ?_|refine zIw rfl rfl ?_|refine zKx rfl rfl rfl ?_|refine zJz rfl rfl ?_);(refine zIx fun Q_ hQ_=>?_;simp (disch:=first|omega|(simp only [List.length_cons,List.length_nil,List.length_append];omega)) only [bb,bp,zKv,↓reduceIte,reduceCtorEq,Nat.reduceEqDiff,Nat.reduceLT,Nat.reduceLeDiff,Nat.reduceAdd,Nat.reduceMul,Nat.reduceSub,Nat.reduceBEq,Int.reduceToNat,cond_true,cond_false,eq_self,beq_self_eq_true,hl,hlm,f1,f2,g5,g6,g7,g8,g27,g28,zFx wf,zHx wf,zBv wf,zFw wf,zAy wf,zAx,tEvZ26,zIy,zIz,zHv,zHw,zAv wf];first|(refine zCw (Q:=Q_) (fun hp_=>?_) (fun hp_=>?_) <;> first|(exfalso;omega)|(refine hQ_ _ _ ?_;clear hQ_ Q_))|(refine zBw (Q:=Q_) (fun hp_=>?_) (fun hp_=>?_) <;> first|(exfalso;omega)|(refine hQ_ _ _ ?_;clear hQ_ Q_))|(refine hQ_ _ _ ?_;clear hQ_ Q_)))
  | (refine zHz fun K_ hK_=>?_;simp (disch:=omega) only [zFv,zAz,zHy,↓reduceIte,reduceCtorEq,Nat.reduceEqDiff,Nat.reduceLT];refine hK_ _ ?_;clear hK_ K_)))
      refine zPy [.no,.no,.no,.no,.no,.full,.full,.full,.full] (by kernel_rfl) ?_
      (repeat' (first
  | (with_reducible first|refine zJx ?_|refine zGw ?_|refine zFz ?_|refine zEv ?_|refine zFy ?_|refine zJw ?_|refine zGv ?_|refine zCz ?_|refine zDw ?_|refine zCy ?_|refine zCv ?_|refine zEx ?_|refine zDz ?_|refine zCx ?_|refine zBx ?_|refine zEz ?_|refine zEy ?_|refine zAw ?_|refine zBy ?_)
  | refine zDy ?_|refine zEw rfl ?_|refine zIv ?_|refine zJy ?_
  | ((first|refine zGx rfl rfl rfl rfl rfl fun K_ hK_=>?_|refine zGy rfl rfl rfl rfl rfl fun K_ hK_=>?_);simp only [zAz,zDx,zGz,↓reduceIte,reduceCtorEq,Nat.reduceEqDiff,Bool.not_true,Bool.not_false];refine hK_ _ ?_;clear hK_ K_)
  | refine zDv (by decide) ?_
  | ((try first|refine zKy rfl rfl rfl ?_|refine zIw rfl rfl ?_|refine zKx rfl rfl rfl ?_|refine zJz rfl rfl ?_);(refine zIx fun Q_ hQ_=>?_;simp (disch:=first|omega|(simp only [List.length_cons,List.length_nil,List.length_append];omega)) only [bb,bp,zKv,↓reduceIte,reduceCtorEq,Nat.reduceEqDiff,Nat.reduceLT,Nat.reduceLeDiff,Nat.reduceAdd,Nat.reduceMul,Nat.reduceSub,Nat.reduceBEq,Int.reduceToNat,cond_true,cond_false,eq_self,beq_self_eq_true,hl,hlm,f1,f2,g5,g6,g7,g8,g27,g28,ct,c3,c4,xRy,zFx wf,zHx wf,zBv wf,zFw wf,zAy wf,zAx,tEvZ26,zIy,zIz,zHv,zHw,zAv wf];first|(refine zCw (Q:=Q_) (fun hp_=>?_) (fun hp_=>?_) <;> first|(exfalso;omega)|(refine hQ_ _ _ ?_;clear hQ_ Q_))|(refine zBw (Q:=Q_) (fun hp_=>?_) (fun hp_=>?_) <;> first|(exfalso;omega)|(refine hQ_ _ _ ?_;clear hQ_ Q_))|(refine hQ_ _ _ ?_;clear hQ_ Q_)))
  | (refine zHz fun K_ hK_=>?_;simp (disch:=omega) only [zFv,zAz,zHy,↓reduceIte,reduceCtorEq,Nat.reduceEqDiff,Nat.reduceLT];refine hK_ _ ?_;clear hK_ K_)))
      (repeat' (first
  | (with_reducible first|refine zJx ?_|refine zGw ?_|refine zFz ?_|refine zEv ?_|refine zFy ?_|refine zJw ?_|refine zGv ?_|refine zCz ?_|refine zDw ?_|refine zCy ?_|refine zCv ?_|refine zEx ?_|refine zDz ?_|refine zCx ?_|refine zBx ?_|refine zEz ?_|refine zEy ?_|refine zAw ?_|refine zBy ?_)
  | refine zDy ?_|refine zEw rfl ?_|refine zIv ?_|refine zJy ?_
  | ((first|refine zGx rfl rfl rfl rfl rfl fun K_ hK_=>?_|refine zGy rfl rfl rfl rfl rfl fun K_ hK_=>?_);simp only [zAz,zDx,zGz,↓reduceIte,reduceCtorEq,Nat.reduceEqDiff,Bool.not_true,Bool.not_false];refine hK_ _ ?_;clear hK_ K_)
  | refine zDv (by decide) ?_
  | ((try first|refine zKy rfl rfl rfl ?_|refine zIw rfl rfl ?_|refine zKx rfl rfl rfl ?_|refine zJz rfl rfl ?_);(refine zIx fun Q_ hQ_=>?_;simp (disch:=first|omega|(simp only [List.length_cons,List.length_nil,List.length_append];omega)) only [bb,bp,zKv,↓reduceIte,reduceCtorEq,Nat.reduceEqDiff,Nat.reduceLT,Nat.reduceLeDiff,Nat.reduceAdd,Nat.reduceMul,Nat.reduceSub,Nat.reduceBEq,Int.reduceToNat,cond_true,cond_false,eq_self,beq_self_eq_true,hl,hlm,f1,f2,g5,g6,g7,g8,g27,g28,hval,hia,hst,zFx wf,zHx wf,zBv wf,zAy wf,tEvZ26,zIy,zIz,zHv,zHw,zAv wf];first|(refine zCw (Q:=Q_) (fun hp_=>?_) (fun hp_=>?_) <;> first|(exfalso;omega)|(refine hQ_ _ _ ?_;clear hQ_ Q_))|(refine zBw (Q:=Q_) (fun hp_=>?_) (fun hp_=>?_) <;> first|(exfalso;omega)|(refine hQ_ _ _ ?_;clear hQ_ Q_))|(refine hQ_ _ _ ?_;clear hQ_ Q_)))
  | (refine zHz fun K_ hK_=>?_;simp (disch:=omega) only [zFv,zAz,zHy,↓reduceIte,reduceCtorEq,Nat.reduceEqDiff,Nat.reduceLT];refine hK_ _ ?_;clear hK_ K_)))
      refine zJv (i+1) (by omega) ⟨hlt,by simp only [zAz,↓reduceIte,reduceCtorEq,Nat.reduceEqDiff];exact g5,by simp only [zAz,↓reduceIte,reduceCtorEq,Nat.reduceEqDiff];exact g6,by simp only [zAz,↓reduceIte,reduceCtorEq,Nat.reduceEqDiff];exact g7,by simp only [zAz,↓reduceIte,reduceCtorEq,Nat.reduceEqDiff];exact g8,by simp only [zAz,↓reduceIte,reduceCtorEq,Nat.reduceEqDiff];exact g27,by simp only [zAz,↓reduceIte,reduceCtorEq,Nat.reduceEqDiff];rfl,rfl,G++[.cells (zBz [uu (N % 2 ^ 64),uu (N >>> 64),uu (R % 2 ^ 64),uu (R >>> 64)]) 57],_,?_,?_,by rw [e6,hRR,List.append_assoc];rfl⟩
      · omega
      · simp only [List.length_append,List.length_cons,List.length_nil];omega
    · have hie:i=xs.length:=by omega
      subst hie
      (repeat' (first
  | (with_reducible first|refine zJx ?_|refine zGw ?_|refine zFz ?_|refine zEv ?_|refine zFy ?_|refine zJw ?_|refine zGv ?_|refine zCz ?_|refine zDw ?_|refine zCy ?_|refine zCv ?_|refine zEx ?_|refine zDz ?_|refine zCx ?_|refine zBx ?_|refine zEz ?_|refine zEy ?_|refine zAw ?_|refine zBy ?_)
  | refine zDy ?_|refine zEw rfl ?_|refine zIv ?_|refine zJy ?_
  | ((first|refine zGx rfl rfl rfl rfl rfl fun K_ hK_=>?_|refine zGy rfl rfl rfl rfl rfl fun K_ hK_=>?_);simp only [zAz,zDx,zGz,↓reduceIte,reduceCtorEq,Nat.reduceEqDiff,Bool.not_true,Bool.not_false];refine hK_ _ ?_;clear hK_ K_)
  | refine zDv (by decide) ?_
  | ((try first|refine zKy rfl rfl rfl ?_|refine zIw rfl rfl ?_|refine zKx rfl rfl rfl ?_|refine zJz rfl rfl ?_);(refine zIx fun Q_ hQ_=>?_;simp (disch:=first|omega|(simp only [List.length_cons,List.length_nil,List.length_append];omega)) only [bb,bp,zKv,↓reduceIte,reduceCtorEq,Nat.reduceEqDiff,Nat.reduceLT,Nat.reduceLeDiff,Nat.reduceAdd,Nat.reduceMul,Nat.reduceSub,Nat.reduceBEq,Int.reduceToNat,cond_true,cond_false,eq_self,beq_self_eq_true,hl,hlm,f1,f2,g5,g6,g7,g8,g27,g28,zFx wf,zHx wf,zBv wf,zFw wf,zAy wf,zAx,tEvZ26,zIy,zIz,zHv,zHw,zAv wf];first|(refine zCw (Q:=Q_) (fun hp_=>?_) (fun hp_=>?_) <;> first|(exfalso;omega)|(refine hQ_ _ _ ?_;clear hQ_ Q_))|(refine zBw (Q:=Q_) (fun hp_=>?_) (fun hp_=>?_) <;> first|(exfalso;omega)|(refine hQ_ _ _ ?_;clear hQ_ Q_))|(refine hQ_ _ _ ?_;clear hQ_ Q_)))
  | (refine zHz fun K_ hK_=>?_;simp (disch:=omega) only [zFv,zAz,zHy,↓reduceIte,reduceCtorEq,Nat.reduceEqDiff,Nat.reduceLT];refine hK_ _ ?_;clear hK_ K_)))
      refine zKw _ _ rfl (ret2 (by decide) (by decide)) ?_
      simp only [zAz,↓reduceIte,reduceCtorEq,Nat.reduceEqDiff]
      refine WV_keep wf (by omega) (fun hfl=>absurd (show false=true from hfl) (by decide)) (fun _=>?_)
      rw [Nat.sub_self,List.replicate_zero,List.append_nil]
      exact ⟨_,rfl,rfl,rfl⟩
  · exact ⟨Nat.zero_le _,by simp only [zAz,↓reduceIte,reduceCtorEq,Nat.reduceEqDiff],by simp only [zAz,↓reduceIte,reduceCtorEq,Nat.reduceEqDiff],by simp only [zAz,↓reduceIte,reduceCtorEq,Nat.reduceEqDiff],by simp only [zAz,↓reduceIte,reduceCtorEq,Nat.reduceEqDiff],by simp only [zAz,↓reduceIte,reduceCtorEq,Nat.reduceEqDiff],by simp only [zAz,↓reduceIte,reduceCtorEq,Nat.reduceEqDiff];try rfl,rfl,[],_,by omega,by show _≤h.clock+2+0;omega,rfl⟩
end Go.Proofs.Ytmincoafjnnkpaa
end

section
namespace Go.Proofs.Ytmincoafjnnkpaa
open Go.Ev
set_option maxRecDepth 100000
set_option linter.unusedSimpArgs false
set_option linter.unusedVariables false
set_option maxHeartbeats 2000000
def Own (h:H) (M:List AO) (idx:Nat) (cells:List AV) (v:AV):Prop:=(cells=[]∧v = .nils)∨(cells≠[]∧v = .sl (nx h idx) 0 cells.length none 1∧M[idx]? = some (.cells (zBz cells) 3))
theorem Own.sl {h:H} (wf:Wf h) {M:List AO} {idx:Nat} {cells:List AV} {v:AV} (x:Own h M idx cells v) (w:Nat):Sl (X h M w) v 1 cells.length cells:=by
  rcases x with ⟨rfl,rfl⟩|⟨_,rfl,hM⟩
  · exact Sl.nil _ _
  · exact Sl.new wf (by rw [Nat.mul_one]) hM
theorem Own.flat {h:H} {M:List AO} {idx:Nat} {cells:List AV} {v:AV} (x:Own h M idx cells v):AV.cells v=[v]∧oneB v=true:=by
  rcases x with ⟨rfl,rfl⟩|⟨_,rfl,hM⟩ <;> exact ⟨rfl,rfl⟩
theorem Own.keep {h:H} {M M':List AO} {idx:Nat} {cells:List AV} {v:AV} (x:Own h M idx cells v) (k:cells≠[] → ∀ o,M[idx]? = some o→M'[idx]? = some o):Own h M' idx cells v:=by
  rcases x with ⟨rfl,rfl⟩|⟨h0,rfl,hM⟩
  · exact .inl ⟨rfl,rfl⟩
  · exact .inr ⟨h0,rfl,k h0 _ hM⟩
theorem Own.app {h:H} (wf:Wf h) {M:List AO} {idx:Nat} {cells:List AV} {v:AV} (x:Own h M idx cells v) (y:AV) (hy:oneB y=true) (hn:cells.length≤1000) :
    ∃ v' M',Own h M' (M.length+1) (cells++[y]) v'∧M'.length=M.length+2∧(∀ k o,(cells=[]∨k≠idx)→M[k]? = some o→M'[k]? = some o) ∧ ∀ w,h.clock≤w → ∃ w',h.clock≤w'∧w'≤w ∧
      appendE Try.prog 22 (reszT Try.prog 22 v) (.sl (nx h M.length) 0 1 (some 1) 1) (X h (M++[.cells (zBz [y]) 3]) w) = .ok v' (X h M' w'):=by
  have hs : ∀ w,srcCells (X h (M++[.cells (zBz [y]) 3]) w) 1 (.sl (nx h M.length) 0 1 (some 1) 1)=some (1,[y]):=fun w=>src_new (e:=3) wf (by rw [yWw];rfl) rfl
  have hlen:(M++[AO.cells (zBz [y]) 3]).length=M.length+1:=by rw [List.length_append];rfl
  have hne:cells++[y]≠[]:=by simp
  rcases x with ⟨rfl,rfl⟩|⟨h0,rfl,hM⟩
  · refine ⟨.sl (nx h (M.length+1)) 0 1 none 1,(M++[.cells (zBz [y]) 3])++[.cells (zBz [y]) 3],.inr ⟨hne,rfl,?_⟩,?_,?_,fun w hw=>⟨w,hw,Nat.le_refl _,?_⟩⟩
    rotate_right 1
    · have happ:=xFx (P:=Try.prog) (t:=22) (w:=w) wf yTx sz_3 el_3 (n:=1) (by omega) (by decide) (by decide) (hs w) rfl
      rw [hlen] at happ
      rw [yYy]
      exact happ
    · rw [List.getElem?_append_right (by simp)];simp
    · simp
    · intro k o _ ho
      rw [List.append_assoc,List.getElem?_append_left (zLv ho)];exact ho
  · have hlt:=zLv hM
    have hM':(M++[AO.cells (zBz [y]) 3])[idx]? = some (.cells (zBz cells) 3):=by rw [List.getElem?_append_left hlt];exact hM
    refine ⟨.sl (nx h (M.length+1)) 0 (cells++[y]).length none 1,(M++[AO.cells (zBz [y]) 3]).set idx AO.dead++[AO.cells (zBz (cells++[y])) 3],.inr ⟨hne,rfl,?_⟩,?_,?_,fun w hw=>⟨min (h.clock+idx) w,by omega,Nat.min_le_right _ _,?_⟩⟩
    rotate_right 1
    · have happ:=yWy (P:=Try.prog) (t:=22) (w:=w) wf yTx sz_3 el_3 (n:=1) (len:=cells.length) (by omega) (by decide) (by decide) hM' (by rw [Nat.mul_one]) (hs w) rfl (by rw [yUy,hy];rfl)
      rw [hlen] at happ
      rw [yUw,List.length_append]
      exact happ
    · rw [List.getElem?_append_right (by simp)];simp
    · simp
    · intro k o hk ho
      have hkl:=zLv ho
      have hki:k≠idx:=hk.resolve_left h0
      rw [List.getElem?_append_left (by simp;omega),List.getElem?_set_ne (Ne.symm hki),List.getElem?_append_left hkl];exact ho
abbrev lI (f:Nat→Bool) (m:Nat):List Int:=(mL f m).map fun b=>((b.toNat:Nat):Int)
end Go.Proofs.Ytmincoafjnnkpaa
end

section
namespace Go.Ev
def Sv (L:Nat) (row x:Nat→Bool):Prop:=px L (fun j=>row j && x j)=row L
def SolF (L m k:Nat) (rows:Nat→Nat→Bool):Prop:=∃ x,∀ r,k≤r→r<m→Sv L (rows r) x
theorem sv_xor {L:Nat} {a b x:Nat→Bool} (ha:Sv L a x) (hb:Sv L b x):Sv L (fun j=>a j ^^ b j) x:=by
  unfold Sv at *
  have e:px L (fun j=>(a j ^^ b j) && x j)=(px L (fun j=>a j && x j) ^^ px L (fun j=>b j && x j)):=by
    rw [← px_xor]
    exact zYv fun j _=>by cases a j <;> cases b j <;> cases x j <;> rfl
  rw [e,ha,hb]
theorem xOv {L:Nat} {a b x y:Nat→Bool} (h:Sv L a x) (e : ∀ j,j≤L→a j=b j) (ex : ∀ j,j<L→b j=true→x j=y j):Sv L b y:=by
  unfold Sv at *
  rw [← e L (Nat.le_refl L),← h]
  refine zYv fun j hj=>?_
  rw [e j (by omega)]
  cases hb:b j
  · rfl
  · rw [ex j hj hb]
theorem sol_none {L m k:Nat} {rows:Nat→Nat→Bool} (hk:k<m) (h0 : ∀ j,j<L→rows k j=false):SolF L m k rows ↔ (rows k L=false∧SolF L m (k+1) rows):=by
  have e : ∀ x:Nat→Bool,px L (fun j=>rows k j && x j)=false:=fun x=>xIv fun j hj=>by rw [h0 j hj];rfl
  constructor
  · rintro ⟨x,hx⟩
    refine ⟨?_,x,fun r h1 h2=>hx r (by omega) h2⟩
    have:=hx k (Nat.le_refl k) hk
    unfold Sv at this
    rw [e x] at this
    exact this.symm
  · rintro ⟨h1,x,hx⟩
    refine ⟨x,fun r h2 h3=>?_⟩
    by_cases e2:r=k
    · rw [e2];unfold Sv;rw [e x,h1]
    · exact hx r (by omega) h3
theorem sol_elim {L m k at_:Nat} {rows rows':Nat→Nat→Bool} (hk:k<m) (ha:at_<L) (hp:rows k at_=true) (he : ∀ r,k<r→r<m → ∀ j,j≤L→rows' r j=if rows r at_=true then (rows r j ^^ rows k j) else rows r j):SolF L m k rows ↔ SolF L m (k+1) rows':=by
  constructor
  · rintro ⟨x,hx⟩
    refine ⟨x,fun r h1 h2=>?_⟩
    have hr:=hx r (by omega) h2
    have hkx:=hx k (Nat.le_refl k) hk
    by_cases h3:rows r at_=true
    · exact xOv (sv_xor hr hkx) (fun j hj=>by rw [he r (by omega) h2 j hj,if_pos h3]) fun _ _ _=>rfl
    · exact xOv hr (fun j hj=>by rw [he r (by omega) h2 j hj,if_neg h3]) fun _ _ _=>rfl
  · rintro ⟨x,hx⟩

    let y0:Nat→Bool:=fun j=>if j=at_ then false else x j
    let y:Nat→Bool:=fun j=>if j=at_ then (px L (fun j=>rows k j && y0 j) ^^ rows k L) else x j
    have hky:Sv L (rows k) y:=by
      unfold Sv
      have e:px L (fun j=>rows k j && y j)=(px L (fun j=>rows k j && y0 j) ^^ px L (fun j=>decide (j=at_) && (px L (fun j=>rows k j && y0 j) ^^ rows k L))):=by
        rw [← px_xor]
        refine zYv fun j _=>?_
        by_cases h:j=at_
        · subst h
          show (rows k j && (if j=j then _ else x j))=((rows k j && (if j=j then false else x j)) ^^ (decide (j=j) && _))
          rw [if_pos rfl,if_pos rfl,hp,decide_eq_true rfl]
          cases (px L (fun j=>rows k j && y0 j) ^^ rows k L) <;> rfl
        · show (rows k j && (if j=at_ then _ else x j))=((rows k j && (if j=at_ then false else x j)) ^^ (decide (j=at_) && _))
          rw [if_neg h,if_neg h,decide_eq_false h]
          cases rows k j <;> cases x j <;> rfl
      have e3 : ∀ c:Bool,px L (fun j=>decide (j=at_) && c)=c:=fun c=>by
        rw [px_one (f:=fun j=>decide (j=at_) && c) ha fun j _ hne=>by rw [decide_eq_false hne];rfl]
        rw [decide_eq_true rfl];rfl
      rw [e,e3]
      cases px L (fun j=>rows k j && y0 j) <;> cases rows k L <;> rfl
    refine ⟨y,fun r h1 h2=>?_⟩
    by_cases e2:r=k
    · rw [e2];exact hky
    · have hr:=hx r (by omega) h2
      have h0:rows' r at_=false:=by
        rw [he r (by omega) h2 at_ (by omega)]
        by_cases h3:rows r at_=true
        · rw [if_pos h3,h3,hp];rfl
        · rw [if_neg h3];simpa using h3
      have hry:Sv L (rows' r) y:=xOv hr (fun _ _=>rfl) fun j _ hj=>by
        by_cases h:j=at_
        · rw [h,h0] at hj;cases hj
        · show x j=if j=at_ then _ else x j
          rw [if_neg h]
      by_cases h3:rows r at_=true
      · refine xOv (sv_xor hry hky) (fun j hj=>?_) fun _ _ _=>rfl
        rw [he r (by omega) h2 j hj,if_pos h3]
        cases rows r j <;> cases rows k j <;> rfl
      · exact xOv hry (fun j hj=>by rw [he r (by omega) h2 j hj,if_neg h3]) fun _ _ _=>rfl
def eqs (L:Nat) (s:Nat→Bool) (r j:Nat):Bool:=if j<L then s (L+r - 1 - j) else s (L+r)
theorem sol_eqs {L n:Nat} {s:Nat→Bool} (hL:L≤n):SolF L (n - L) 0 (eqs L s) ↔ ∃ T,T<2 ^ L∧Makes T L s n:=by
  have e : ∀ (x:Nat→Bool) (i:Nat),L≤i→(Sv L (eqs L s (i - L)) x ↔ px L (fun j=>x j && s (i - 1 - j))=s i):=fun x i hi=>by
    unfold Sv
    have h1:eqs L s (i - L) L=s i:=by unfold eqs;rw [if_neg (Nat.lt_irrefl L),show L+(i - L)=i by omega]
    have h2:px L (fun j=>eqs L s (i - L) j && x j)=px L (fun j=>x j && s (i - 1 - j)):=zYv fun j hj=>by
      unfold eqs;rw [if_pos hj,show L+(i - L) - 1 - j=i - 1 - j by omega,Bool.and_comm]
    rw [h1,h2]
  constructor
  · rintro ⟨x,hx⟩
    refine ⟨natOf L x,natOf_lt L x,fun i h1 h2=>?_⟩
    have:=(e x i h1).1 (hx (i - L) (Nat.zero_le _) (by omega))
    rw [← this]
    exact zYv fun j hj=>by rw [natOf_bit x hj]
  · rintro ⟨T,_,hm⟩
    refine ⟨T.testBit,fun r _ hr=>?_⟩
    have:=(e T.testBit (L+r) (by omega)).2 (hm (L+r) (by omega) (by omega)).symm
    rwa [show L+r - L=r by omega] at this
end Go.Ev
end

section
namespace Go.Proofs.Ytmincoafjnnkpaa
open Go.Ev
set_option maxRecDepth 100000
set_option linter.unusedSimpArgs false
set_option linter.unusedVariables false
set_option maxHeartbeats 2000000
def Ows (h:H) (M:List AO) (idx:Nat) (cells:List AV) (v:AV):Prop:=(cells=[]∧v = .nils)∨(cells≠[]∧v = .sl (nx h idx) 0 cells.length none 1∧M[idx]? = some (.cells (zBz cells) 22))
theorem Ows.sl {h:H} (wf:Wf h) {M:List AO} {idx:Nat} {cells:List AV} {v:AV} (x:Ows h M idx cells v) (w:Nat):Sl (X h M w) v 1 cells.length cells:=by
  rcases x with ⟨rfl,rfl⟩|⟨_,rfl,hM⟩
  · exact Sl.nil _ _
  · exact Sl.new wf (by rw [Nat.mul_one]) hM
theorem Ows.flat {h:H} {M:List AO} {idx:Nat} {cells:List AV} {v:AV} (x:Ows h M idx cells v):AV.cells v=[v]∧oneB v=true:=by
  rcases x with ⟨rfl,rfl⟩|⟨_,rfl,hM⟩ <;> exact ⟨rfl,rfl⟩
theorem Ows.keep {h:H} {M M':List AO} {idx:Nat} {cells:List AV} {v:AV} (x:Ows h M idx cells v) (k:cells≠[] → ∀ o,M[idx]? = some o→M'[idx]? = some o):Ows h M' idx cells v:=by
  rcases x with ⟨rfl,rfl⟩|⟨h0,rfl,hM⟩
  · exact .inl ⟨rfl,rfl⟩
  · exact .inr ⟨h0,rfl,k h0 _ hM⟩
theorem Ows.app {h:H} (wf:Wf h) {M:List AO} {idx:Nat} {cells:List AV} {v:AV} (x:Ows h M idx cells v) (y:AV) (hy:oneB y=true) (hn:cells.length≤1000) :
    ∃ v' M',Ows h M' (M.length+1) (cells++[y]) v'∧M'.length=M.length+2∧(∀ k o,(cells=[]∨k≠idx)→M[k]? = some o→M'[k]? = some o) ∧ ∀ w,h.clock≤w → ∃ w',h.clock≤w'∧w'≤w ∧
      appendE Try.prog 42 (reszT Try.prog 42 v) (.sl (nx h M.length) 0 1 (some 1) 1) (X h (M++[.cells (zBz [y]) 22]) w) = .ok v' (X h M' w'):=by
  have hs : ∀ w,srcCells (X h (M++[.cells (zBz [y]) 22]) w) 1 (.sl (nx h M.length) 0 1 (some 1) 1)=some (1,[y]):=fun w=>src_new (e:=22) wf (by rw [yWw];rfl) rfl
  have hlen:(M++[AO.cells (zBz [y]) 22]).length=M.length+1:=by rw [List.length_append];rfl
  have hne:cells++[y]≠[]:=by simp
  rcases x with ⟨rfl,rfl⟩|⟨h0,rfl,hM⟩
  · refine ⟨.sl (nx h (M.length+1)) 0 1 none 1,(M++[.cells (zBz [y]) 22])++[.cells (zBz [y]) 22],.inr ⟨hne,rfl,?_⟩,?_,?_,fun w hw=>⟨w,hw,Nat.le_refl _,?_⟩⟩
    rotate_right 1
    · have happ:=xFx (P:=Try.prog) (t:=42) (w:=w) wf un_42 zQv el_22 (n:=1) (by omega) (by decide) (by decide) (hs w) rfl
      rw [hlen] at happ
      rw [yYy]
      exact happ
    · rw [List.getElem?_append_right (by simp)];simp
    · simp
    · intro k o _ ho
      rw [List.append_assoc,List.getElem?_append_left (zLv ho)];exact ho
  · have hlt:=zLv hM
    have hM':(M++[AO.cells (zBz [y]) 22])[idx]? = some (.cells (zBz cells) 22):=by rw [List.getElem?_append_left hlt];exact hM
    refine ⟨.sl (nx h (M.length+1)) 0 (cells++[y]).length none 1,(M++[AO.cells (zBz [y]) 22]).set idx AO.dead++[AO.cells (zBz (cells++[y])) 22],.inr ⟨hne,rfl,?_⟩,?_,?_,fun w hw=>⟨min (h.clock+idx) w,by omega,Nat.min_le_right _ _,?_⟩⟩
    rotate_right 1
    · have happ:=yWy (P:=Try.prog) (t:=42) (w:=w) wf un_42 zQv el_22 (n:=1) (len:=cells.length) (by omega) (by decide) (by decide) hM' (by rw [Nat.mul_one]) (hs w) rfl (by rw [yUy,hy];rfl)
      rw [hlen] at happ
      rw [yUw,List.length_append]
      exact happ
    · rw [List.getElem?_append_right (by simp)];simp
    · simp
    · intro k o hk ho
      have hkl:=zLv ho
      have hki:k≠idx:=hk.resolve_left h0
      rw [List.getElem?_append_left (by simp;omega),List.getElem?_set_ne (Ne.symm hki),List.getElem?_append_left hkl];exact ho

structure RowsAt (M:List AO) (L cnt:Nat) (ps:Nat→Nat) (rows:Nat→Nat→Bool):Prop where
  at_ : ∀ r,r<cnt→M[ps r]? = some (.cells (zBz ((mL (rows r) (L+1)).map bi)) 3)
  inj : ∀ r r',r<cnt→r'<cnt→ps r=ps r'→r=r'
noncomputable def rowV (h:H) (L:Nat) (ps:Nat→Nat) (r:Nat):AV:=.sl (nx h (ps r)) 0 (L+1) none 1
noncomputable def rowVs (h:H) (L cnt:Nat) (ps:Nat→Nat):List AV:=(List.range cnt).map (rowV h L ps)
theorem xPx (h:H) (L cnt:Nat) (ps:Nat→Nat):(rowVs h L cnt ps).length=cnt:=by unfold rowVs;simp
theorem rowVs_get (h:H) (L:Nat) (ps:Nat→Nat) {cnt r:Nat} (hr:r<cnt):(rowVs h L cnt ps)[r]? = some (rowV h L ps r):=by
  unfold rowVs
  rw [List.getElem?_map,List.getElem?_range hr];rfl
theorem Ows.row {h:H} (wf:Wf h) {M:List AO} {io L cnt:Nat} {ps:Nat→Nat} {v:AV} (x:Ows h M io (rowVs h L cnt ps) v) {r:Nat} (hr:r<cnt):indexAddrE Try.prog 42 v (.int .i64 (r:Int))=some (.ptr (nx h io) r) ∧ ∀ w,load1 (nx h io) r (X h M w)=some (rowV h L ps r):=by
  rcases x with ⟨h0,_⟩|⟨_,rfl,hM⟩
  · have:=xPx h L cnt ps
    rw [h0] at this
    exact absurd hr (by simp at this;omega)
  · refine ⟨?_,fun w=>?_⟩
    · have ht:toNatE (.int .i64 (r:Int))=some r:=by rw [yVv (by omega),Int.toNat_natCast]
      have hr':r<(rowVs h L cnt ps).length:=by rw [xPx];exact hr
      simp only [yQv,ht,zSv,yVz hr',Nat.zero_add,Nat.mul_one]
    · rw [zHx wf,hM]
      show cellAt (some (AO.cells (zBz (rowVs h L cnt ps)) 22)) r=_
      rw [yXz,rowVs_get h L ps hr]
theorem RowsAt.bit {h:H} (wf:Wf h) {M:List AO} {L cnt:Nat} {ps:Nat→Nat} {rows:Nat→Nat→Bool} (x:RowsAt M L cnt ps rows) {r j:Nat} (hr:r<cnt) (hj:j≤L):indexAddrE Try.prog 22 (rowV h L ps r) (.int .i64 (j:Int))=some (.ptr (nx h (ps r)) j) ∧ ∀ w,load1 (nx h (ps r)) j (X h M w)=some (bi (rows r j)):=by
  refine ⟨?_,fun w=>?_⟩
  · have ht:toNatE (.int .i64 (j:Int))=some j:=by rw [yVv (by omega),Int.toNat_natCast]
    have hj':j<L+1:=by omega
    unfold rowV
    simp only [yQv,ht,zQy,yVz hj',Nat.zero_add,Nat.mul_one]
  · rw [zHx wf,x.at_ r hr]
    show cellAt (some (AO.cells (zBz ((mL (rows r) (L+1)).map bi)) 3)) j=_
    rw [yXz,List.getElem?_map]
    unfold mL
    rw [List.getElem?_map,List.getElem?_range (by omega)];rfl
theorem mL_set (f:Nat→Bool) (n c:Nat) (v:Bool):((mL f n).map bi).set c (bi v)=(mL (fun j=>if j=c then v else f j) n).map bi:=by
  apply List.ext_getElem?
  intro i
  unfold mL
  rw [List.map_map,List.map_map]
  by_cases hi:i<n
  · by_cases hc:i=c
    · subst hc
      rw [List.getElem?_set_self (by simpa using hi),List.getElem?_map,List.getElem?_range hi]
      show some (bi v)=some (bi (if i=i then v else f i))
      rw [if_pos rfl]
    · rw [List.getElem?_set_ne (Ne.symm hc),List.getElem?_map,List.getElem?_map,List.getElem?_range hi]
      show some (bi (f i))=some (bi (if i=c then v else f i))
      rw [if_neg hc]
  · rw [List.getElem?_eq_none (by simp;omega),List.getElem?_eq_none (by simp;omega)]
theorem RowsAt.store {h:H} (wf:Wf h) {M:List AO} {L cnt:Nat} {ps:Nat→Nat} {rows:Nat→Nat→Bool} (x:RowsAt M L cnt ps rows) {r c:Nat} (hr:r<cnt) (hc:c≤L) (v:Bool) :
    ∃ M',RowsAt M' L cnt ps (fun r'=>if r'=r then (fun j=>if j=c then v else rows r j) else rows r')∧M'.length=M.length∧(∀ k,k≠ps r→M'[k]? = M[k]?) ∧ ∀ w,store1 (nx h (ps r)) c (bi v) (X h M w)=some (X h M' (min (h.clock+ps r) w)):=by
  have hM:=x.at_ r hr
  have hlt:=zLv hM
  refine ⟨M.set (ps r) (.cells (zBz ((mL (fun j=>if j=c then v else rows r j) (L+1)).map bi)) 3),⟨fun r' hr'=>?_,x.inj⟩,List.length_set,fun k hk=>List.getElem?_set_ne (Ne.symm hk),fun w=>?_⟩
  · by_cases e:r'=r
    · subst e
      rw [List.getElem?_set_self hlt,if_pos rfl]
    · rw [List.getElem?_set_ne (fun e2=>e (x.inj _ _ hr' hr e2.symm)),if_neg e]
      exact x.at_ r' hr'
  · have e:storeAt (some (.cells (zBz ((mL (rows r) (L+1)).map bi)) 3)) c (bi v)=some (.cells (zBz ((mL (fun j=>if j=c then v else rows r j) (L+1)).map bi)) 3):=by
      rw [yVx,show oneB (bi v)=true from rfl,cond_true,if_pos (by rw [List.length_map,yRw];omega),mL_set]
    rw [zFw wf,hM,e]
theorem Ows.type {h:H} {M:List AO} {io:Nat} {cells:List AV} {v:AV} (x:Ows h M io cells v) {p:Nat} {cs:List AV} (hp:M[p]? = some (.cells (zBz cs) 3)):cells=[]∨p≠io:=by
  rcases x with ⟨h0,_⟩|⟨_,_,hM⟩
  · exact .inl h0
  · refine .inr fun e=>?_
    rw [e,hM] at hp
    injection hp with hp
    injection hp with _ h2
    cases h2
theorem RowsAt.congr {M:List AO} {L cnt:Nat} {ps:Nat→Nat} {rows rows':Nat→Nat→Bool} (x:RowsAt M L cnt ps rows) (e : ∀ r,r<cnt → ∀ j,j≤L→rows r j=rows' r j):RowsAt M L cnt ps rows':=by
  refine ⟨fun r hr=>?_,x.inj⟩
  rw [x.at_ r hr]
  have:mL (rows r) (L+1)=mL (rows' r) (L+1):=by
    unfold mL
    exact List.map_congr_left fun j hj=>e r hr j (by have:=List.mem_range.1 hj;omega)
  rw [this]
theorem RowsAt.snoc {h:H} {M M2 M3:List AO} {L cnt io io3 p:Nat} {ps:Nat→Nat} {rows:Nat→Nat→Bool} {vo vo' v':AV} (x:RowsAt M L cnt ps rows) (hM2 : ∀ k o,k<M.length→M[k]? = some o→M2[k]? = some o)
    (ows2:Ows h M2 io (rowVs h L cnt ps) vo) (ows3:Ows h M3 io3 (rowVs h L cnt ps++[v']) vo') (hk3 : ∀ k o,(rowVs h L cnt ps=[]∨k≠io)→M2[k]? = some o→M3[k]? = some o)
    (hv:v' = .sl (nx h p) 0 (L+1) none 1) (hp:M2[p]? = some (.cells (zBz ((mL (rows cnt) (L+1)).map bi)) 3)) (hpl:M.length≤p) :
    Ows h M3 io3 (rowVs h L (cnt+1) (fun r=>if r=cnt then p else ps r)) vo'∧RowsAt M3 L (cnt+1) (fun r=>if r=cnt then p else ps r) rows:=by
  have e:rowVs h L (cnt+1) (fun r=>if r=cnt then p else ps r)=rowVs h L cnt ps++[v']:=by
    unfold rowVs
    rw [List.range_succ,List.map_append]
    congr 1
    · refine List.map_congr_left fun r hr=>?_
      have:=List.mem_range.1 hr
      show AV.sl (nx h (if r=cnt then p else ps r)) 0 (L+1) none 1=AV.sl (nx h (ps r)) 0 (L+1) none 1
      rw [if_neg (by omega)]
    · show [rowV h L _ cnt]=[v']
      show [AV.sl (nx h (if cnt=cnt then p else ps cnt)) 0 (L+1) none 1]=[v']
      rw [if_pos rfl,hv]
  refine ⟨by rw [e];exact ows3,fun r hr=>?_,fun r r' hr hr' he=>?_⟩
  · by_cases h1:r=cnt
    · subst h1
      show M3[if r=r then p else ps r]? = _
      rw [if_pos rfl]
      exact hk3 _ _ (ows2.type hp) hp
    · show M3[if r=cnt then p else ps r]? = _
      rw [if_neg h1]
      have h2:=x.at_ r (by omega)
      have h3:=hM2 _ _ (zLv h2) h2
      exact hk3 _ _ (ows2.type h3) h3
  · have hb : ∀ q,q<cnt→ps q<M.length:=fun q hq=>zLv (x.at_ q hq)
    by_cases h1:r=cnt
    · by_cases h2:r'=cnt
      · omega
      · have:=hb r' (by omega)
        simp only [h1,h2,if_true,if_false] at he
        omega
    · by_cases h2:r'=cnt
      · have:=hb r (by omega)
        simp only [h1,h2,if_true,if_false] at he
        omega
      · simp only [h1,h2,if_false] at he
        exact x.inj r r' (by omega) (by omega) he
def elimR (rows:Nat→Nat→Bool) (k p r q j:Nat):Bool:=if k<q∧q<r∧rows q p=true then (rows q j ^^ rows k j) else rows q j
def halfR (rows:Nat→Nat→Bool) (k r c q j:Nat):Bool:=if q=r∧j<c then (rows q j ^^ rows k j) else rows q j
theorem elimR_skip {rows:Nat→Nat→Bool} {k p r:Nat} (hc:rows r p=false) (q j:Nat):elimR rows k p r q j=elimR rows k p (r+1) q j:=by
  unfold elimR
  by_cases e:q=r
  · subst e
    rw [if_neg (by omega),if_neg (by rw [hc];simp)]
  · by_cases h:k<q∧q<r∧rows q p=true
    · rw [if_pos h,if_pos ⟨h.1,by omega,h.2.2⟩]
    · rw [if_neg h,if_neg fun x=>h ⟨x.1,by omega,x.2.2⟩]
theorem elimR_half {rows:Nat→Nat→Bool} {k p r c L:Nat} (hkr:k<r) (hc:rows r p=true) (hcL:L<c) (q:Nat) {j:Nat} (hj:j≤L):halfR (elimR rows k p r) k r c q j=elimR rows k p (r+1) q j:=by
  unfold halfR
  by_cases e:q=r
  · subst e
    rw [if_pos ⟨rfl,by omega⟩]
    unfold elimR
    rw [if_neg (by omega),if_neg (by omega),if_pos ⟨hkr,by omega,hc⟩]
  · rw [if_neg (by omega)]
    unfold elimR
    by_cases h:k<q∧q<r∧rows q p=true
    · rw [if_pos h,if_pos ⟨h.1,by omega,h.2.2⟩]
    · rw [if_neg h,if_neg fun x=>h ⟨x.1,by omega,x.2.2⟩]
theorem halfR_succ (rows:Nat→Nat→Bool) (k r c q j:Nat):(if q=r then (fun j=>if j=c then (rows r c ^^ rows k c) else halfR rows k r c r j) else halfR rows k r c q) j=halfR rows k r (c+1) q j:=by
  unfold halfR
  by_cases e:q=r
  · subst e
    rw [if_pos rfl]
    show (if j=c then _ else _)=_
    by_cases h:j=c
    · subst h
      rw [if_pos rfl,if_pos ⟨rfl,by omega⟩]
    · rw [if_neg h]
      by_cases h2:j<c
      · rw [if_pos ⟨rfl,h2⟩,if_pos ⟨rfl,by omega⟩]
      · rw [if_neg (by omega),if_neg (by omega)]
  · rw [if_neg e,if_neg (by omega),if_neg (by omega)]
end Go.Proofs.Ytmincoafjnnkpaa
end
