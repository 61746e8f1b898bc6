import Derived.Test.YtmincoafjnnkpaawsM7
set_option linter.all false
section
namespace Go.Proofs.Ytmincoafjnnkpaa
open Go.Ev
set_option maxRecDepth 100000
set_option linter.unusedSimpArgs false
set_option linter.unusedVariables false
set_option maxHeartbeats 2000000
theorem tEvZ10 :type_of% (And.intro (And.intro (And.intro (And.intro (And.intro (And.intro (And.intro (@yQv) (@yQw)) (And.intro (@yQx) (@yQy))) (And.intro (And.intro (@yQz) (@yPv)) (And.intro (@ia_2) (And.intro (@ia_3) (@ia_4))))) (And.intro (And.intro (And.intro (@ia_5) (@yPw)) (And.intro (@yPx) (@yPy))) (And.intro (And.intro (@yPz) (@yOv)) (And.intro (@yOw) (And.intro (@zSz) (@yOx)))))) (And.intro (And.intro (And.intro (And.intro (@yOy) (@yOz)) (And.intro (@yNv) (@yNw))) (And.intro (And.intro (@yNx) (@yNy)) (And.intro (@yNz) (And.intro (@yMv) (@sz_2))))) (And.intro (And.intro (And.intro (@sz_3) (@sz_4)) (And.intro (@sz_5) (And.intro (@zYv) (@zYw)))) (And.intro (And.intro (@zYx) (@zYy)) (And.intro (@zYz) (And.intro (@zXv) (@zRx))))))) (And.intro (And.intro (And.intro (And.intro (And.intro (@zXw) (@zXx)) (And.intro (@zXy) (@zQy))) (And.intro (And.intro (@zXz) (@zWv)) (And.intro (@zWw) (And.intro (@zWx) (@zWy))))) (And.intro (And.intro (And.intro (@ze_2) (@ze_3)) (And.intro (@ze_4) (And.intro (@ze_5) (@zWz)))) (And.intro (And.intro (@zVv) (@zVw)) (And.intro (@zVx) (And.intro (@zVy) (@zVz)))))) (And.intro (And.intro (And.intro (And.intro (@zUv) (@zUw)) (And.intro (@zUx) (@zUy))) (And.intro (And.intro (@zUz) (@zTv)) (And.intro (@zTw) (And.intro (@zTx) (@zTy))))) (And.intro (And.intro (And.intro (@zNv) (@zNw)) (And.intro (@zNx) (And.intro (@zNy) (@zNz)))) (And.intro (And.intro (@zMv) (@zMw)) (And.intro (@zMx) (And.intro (@zMy) (@yMy)))))))) (And.intro (And.intro (And.intro (And.intro (And.intro (And.intro (@yMz) (@yLv)) (And.intro (@yLw) (@yLx))) (And.intro (And.intro (@yLy) (@yLz)) (And.intro (@yKv) (And.intro (@yKw) (@yKx))))) (And.intro (And.intro (And.intro (@yKy) (@yKz)) (And.intro (@yJv) (@yJw))) (And.intro (And.intro (@yJx) (@yJy)) (And.intro (@yJz) (And.intro (@yIv) (@yIw)))))) (And.intro (And.intro (And.intro (And.intro (@yIx) (@yIy)) (And.intro (@yIz) (@yHv))) (And.intro (And.intro (@yHw) (@yHx)) (And.intro (@yHy) (And.intro (@yHz) (@yGv))))) (And.intro (And.intro (And.intro (@yGw) (@yGx)) (And.intro (@yGy) (And.intro (@yGz) (@yFv)))) (And.intro (And.intro (@yFw) (@yFx)) (And.intro (@yFy) (And.intro (@yFz) (@yEv))))))) (And.intro (And.intro (And.intro (And.intro (And.intro (@yEw) (@yEx)) (And.intro (@yEy) (@yEz))) (And.intro (And.intro (@yDv) (@yDw)) (And.intro (@yDx) (And.intro (@yDy) (@yDz))))) (And.intro (And.intro (And.intro (@yCv) (@yCw)) (And.intro (@yCx) (And.intro (@yCy) (@yCz)))) (And.intro (And.intro (@zSx) (@yBv)) (And.intro (@yBw) (And.intro (@yBx) (@yBy)))))) (And.intro (And.intro (And.intro (And.intro (@yBz) (@yAv)) (And.intro (@yAw) (@yAx))) (And.intro (And.intro (@yAy) (@yAz)) (And.intro (@zZv) (And.intro (@zZw) (@zZx))))) (And.intro (And.intro (And.intro (@zZy) (@zZz)) (And.intro (@zQz) (And.intro (@yMw) (@zTz)))) (And.intro (And.intro (@zQv) (@zSv)) (And.intro (@zSw) (And.intro (@yMx) (@zRv))))))))):=And.intro (And.intro (And.intro (And.intro (And.intro (And.intro (And.intro (@yQv) (@yQw)) (And.intro (@yQx) (@yQy))) (And.intro (And.intro (@yQz) (@yPv)) (And.intro (@ia_2) (And.intro (@ia_3) (@ia_4))))) (And.intro (And.intro (And.intro (@ia_5) (@yPw)) (And.intro (@yPx) (@yPy))) (And.intro (And.intro (@yPz) (@yOv)) (And.intro (@yOw) (And.intro (@zSz) (@yOx)))))) (And.intro (And.intro (And.intro (And.intro (@yOy) (@yOz)) (And.intro (@yNv) (@yNw))) (And.intro (And.intro (@yNx) (@yNy)) (And.intro (@yNz) (And.intro (@yMv) (@sz_2))))) (And.intro (And.intro (And.intro (@sz_3) (@sz_4)) (And.intro (@sz_5) (And.intro (@zYv) (@zYw)))) (And.intro (And.intro (@zYx) (@zYy)) (And.intro (@zYz) (And.intro (@zXv) (@zRx))))))) (And.intro (And.intro (And.intro (And.intro (And.intro (@zXw) (@zXx)) (And.intro (@zXy) (@zQy))) (And.intro (And.intro (@zXz) (@zWv)) (And.intro (@zWw) (And.intro (@zWx) (@zWy))))) (And.intro (And.intro (And.intro (@ze_2) (@ze_3)) (And.intro (@ze_4) (And.intro (@ze_5) (@zWz)))) (And.intro (And.intro (@zVv) (@zVw)) (And.intro (@zVx) (And.intro (@zVy) (@zVz)))))) (And.intro (And.intro (And.intro (And.intro (@zUv) (@zUw)) (And.intro (@zUx) (@zUy))) (And.intro (And.intro (@zUz) (@zTv)) (And.intro (@zTw) (And.intro (@zTx) (@zTy))))) (And.intro (And.intro (And.intro (@zNv) (@zNw)) (And.intro (@zNx) (And.intro (@zNy) (@zNz)))) (And.intro (And.intro (@zMv) (@zMw)) (And.intro (@zMx) (And.intro (@zMy) (@yMy)))))))) (And.intro (And.intro (And.intro (And.intro (And.intro (And.intro (@yMz) (@yLv)) (And.intro (@yLw) (@yLx))) (And.intro (And.intro (@yLy) (@yLz)) (And.intro (@yKv) (And.intro (@yKw) (@yKx))))) (And.intro (And.intro (And.intro (@yKy) (@yKz)) (And.intro (@yJv) (@yJw))) (And.intro (And.intro (@yJx) (@yJy)) (And.intro (@yJz) (And.intro (@yIv) (@yIw)))))) (And.intro (And.intro (And.intro (And.intro (@yIx) (@yIy)) (And.intro (@yIz) (@yHv))) (And.intro (And.intro (@yHw) (@yHx)) (And.intro (@yHy) (And.intro (@yHz) (@yGv))))) (And.intro (And.intro (And.intro (@yGw) (@yGx)) (And.intro (@yGy) (And.intro (@yGz) (@yFv)))) (And.intro (And.intro (@yFw) (@yFx)) (And.intro (@yFy) (And.intro (@yFz) (@yEv))))))) (And.intro (And.intro (And.intro (And.intro (And.intro (@yEw) (@yEx)) (And.intro (@yEy) (@yEz))) (And.intro (And.intro (@yDv) (@yDw)) (And.intro (@yDx) (And.intro (@yDy) (@yDz))))) (And.intro (And.intro (And.intro (@yCv) (@yCw)) (And.intro (@yCx) (And.intro (@yCy) (@yCz)))) (And.intro (And.intro (@zSx) (@yBv)) (And.intro (@yBw) (And.intro (@yBx) (@yBy)))))) (And.intro (And.intro (And.intro (And.intro (@yBz) (@yAv)) (And.intro (@yAw) (@yAx))) (And.intro (And.intro (@yAy) (@yAz)) (And.intro (@zZv) (And.intro (@zZw) (@zZx))))) (And.intro (And.intro (And.intro (@zZy) (@zZz)) (And.intro (@zQz) (And.intro (@yMw) (@zTz)))) (And.intro (And.intro (@zQv) (@zSv)) (And.intro (@zSw) (And.intro (@yMx) (@zRv))))))))
def errRun (xs ys:List Int) (many:Int):Int:=if err3 xs ys=0 then (if many<0 then 2 else if 4096<many then 6 else 0) else err3 xs ys
theorem err3_ok {xs ys:List Int} (h:err3 xs ys=0):(xs.length≤128∧good xs=true)∧good ys=true∧ys.length=xs.length:=by
  unfold err3 at h
  split at h
  · rename_i h2
    split at h
    · rename_i h3
      unfold err2 at h2
      split at h2
      · rename_i h4
        exact ⟨xMw.1 h4,(xMw.1 h2).2,h3⟩
      · contradiction
    · exact absurd h (by decide)
  · contradiction
def mL (m:Nat→Bool) (n:Nat):List Bool:=(List.range n).map m
theorem mL_length (m:Nat→Bool) (n:Nat):(mL m n).length=n:=by unfold mL;simp
theorem mL_succ (m:Nat→Bool) (n:Nat):mL m (n+1)=mL m n++[m n]:=by unfold mL;rw [List.range_succ,List.map_append];rfl
theorem mL_take {m:Nat→Bool} {bs:List Bool} {L:Nat} (hb:bs.length=L) (hm : ∀ i,i<L→m i=sq bs i) {n:Nat} (hn:n≤L):bs.take n=mL m n:=by
  apply List.ext_getElem?
  intro i
  rw [List.getElem?_take]
  unfold mL
  rw [List.getElem?_map]
  by_cases h:i<n
  · rw [if_pos h,List.getElem?_range h,Option.map_some,hm i (by omega),sq,List.getD_eq_getElem?_getD,List.getElem?_eq_getElem (by omega)]
    rfl
  · rw [if_neg h,List.getElem?_eq_none (by simp;omega)];rfl
theorem runOK (ts ss:List Bool) (ht:ts.length≤128) (hss:ss.length=ts.length) (many:Nat) (hmn:many≤4096) (a b:AV) (h:H) (wf:Wf h) (hs:Sl h a 1 ts.length (ts.map bi)) (hst:Sl h b 1 ss.length (ss.map bi)) (hcb:CapU 1 b) (xs ys:List Int) (hx:xs.length=ts.length) (hxm:xs.map ii=ts.map bi) (hy:ys.length=ss.length) (hym:ys.map ii=ss.map bi) (he:err3 xs ys=0) :
    ∃ L:List AO,L[1]? = some (.cells (zBz ((mL (runS (bN ts) ts.length (sq ss)) many).map bi)) 3)∧(om Try.prog KK).call (.fn 16 [a,b,ii (many:Int)]) h = .ok (.tup [.sl (nx h 1) 0 many (some many) 1,ii 0]) (X h L h.w):=by
  suffices hW:WV ((om Try.prog KK).call (.fn 16 [a,b,ii (many:Int)]) h) fun v h'=>∃ L:List AO,L[1]? = some (.cells (zBz ((mL (runS (bN ts) ts.length (sq ss)) many).map bi)) 3)∧v = .tup [.sl (nx h 1) 0 many (some many) 1,ii 0]∧h'=X h L h.w by
    obtain ⟨v,h',e,L,h3,rfl,rfl⟩:=hW
    exact ⟨L,h3,e⟩
  have hrun:=runS_is (bN ts) ts.length (sq ss)
  have hfirst:=hrun.first
  have hT:bN ts<2 ^ 128:=xPw ht
  generalize hme:runS (bN ts) ts.length (sq ss)=m at *
  obtain ⟨f1,f2⟩:=zPz hst
  have hmk : ∀ l w,makeSliceE Try.prog 22 (.int .i64 (many:Int)) (.int .i64 (many:Int)) (X h l w) = .ok (.sl (nx h l.length) 0 many (some many) 1) (X h (l++[.cells (zBz (List.replicate many (.int .i64 0))) 3]) w):=
    fun l w=>xOx wf yRw sz_3 el_3 (by omega) (by decide) rfl
  have cst : ∀ (l:List AO) (w:Nat),w≤h.clock+l.length→(om Try.prog KK).call (.fn 41 [a,b]) (X h l w) = .ok (ii 0) (X h l w):=fun l w hw=>by
    have:=checkStart xs ys a b _ (wf.X hw) (by rw [hx,hxm];exact hs.up wf l w) (by rw [hy,hym];exact hst.up wf l w)
    rw [he] at this
    exact this
  have creg : ∀ (l:List AO) (w:Nat),w≤h.clock+l.length→(om Try.prog KK).call (.fn 42 [a]) (X h l w) = .ok (.agg (rg (bN ts) ts.length)) (X h l w):=fun l w hw=>registerOf ts ht a _ (wf.X hw) (hs.up wf l w)
  have crun : ∀ (l:List AO) (w:Nat),w≤h.clock+l.length→(om Try.prog KK).call (.fn 43 [.agg (rg (bN ts) ts.length),b]) (X h l w) = .ok (.fn 67 [] [.ptr (nx h l.length) 0,.ptr (nx h (l.length+1)) 0]) (X h (l++[.cells (zBz (rg (bN ts) ts.length)) 59,.cells (zBz [b]) 22]) w):=fun l w hw=>run_ (bN ts) ts.length b ⟨f1,f2⟩ h wf l w hw
  have ccopy : ∀ w,w≤h.clock+3→h.clock≤w → ∃ w',h.clock≤w'∧w'≤w∧copyE Try.prog 22 (.sl (nx h 1) 0 many (some many) 1) (reszT Try.prog 22 b) (X h [.cells (zBz [ii (many:Int)]) 3,.cells (zBz (List.replicate many (.int .i64 0))) 3,.cells (zBz [.sl (nx h 1) 0 many (some many) 1]) 22] w) = .ok (.int .i64 ((min ts.length many:Nat):Int)) (X h [.cells (zBz [ii (many:Int)]) 3,.cells (zBz ((mL m (min ts.length many)).map bi++List.replicate (many - min ts.length many) (.int .i64 0))) 3,.cells (zBz [.sl (nx h 1) 0 many (some many) 1]) 22] w'):=fun w hw1 hw2=>by
    obtain ⟨w',h1,h2,h3⟩:=copyE_any (P:=Try.prog) (cap:=some many) (esz:=1) (len:=many) (n:=ts.length) (cs:=ss.map bi) (old:=List.replicate many (.int .i64 0)) (k:=1) (w:=w) (l:=[.cells (zBz [ii (many:Int)]) 3,.cells (zBz (List.replicate many (.int .i64 0))) 3,.cells (zBz [.sl (nx h 1) 0 many (some many) 1]) 22]) wf yRw sz_3 (x:=reszT Try.prog 22 b) (by have:=(hst.up wf [.cells (zBz [ii (many:Int)]) 3,.cells (zBz (List.replicate many (.int .i64 0))) 3,.cells (zBz [.sl (nx h 1) 0 many (some many) 1]) 22] w).srcE hcb.2 yRw sz_3;rw [hss] at this;exact this) (by simp [hss]) rfl (by simp) (fun k=>by rw [← List.map_take];exact allOne_map (fun _=>rfl) _)
    refine ⟨w',by omega,h2,?_⟩
    rw [h3,← List.map_take,mL_take hss hfirst (Nat.min_le_left _ _),List.drop_replicate]
    rfl
  refine zLw (fn:=Try.f16) Try.func16 rfl rfl rfl rfl rfl ?_
  simp only [zLx]
  have n0 : ¬ ((many:Int)<0):=by omega
  have n1 : ¬ ((4096:Int)<(many:Int)):=by omega
  have hd0:decide ((many:Int)<0)=false:=decide_eq_false n0
  have hd1:decide ((4096:Int)<(many:Int))=false:=decide_eq_false n1
  obtain ⟨w1,hw1,hw1',hcp⟩:=ccopy h.clock (by omega) (by omega)
  (repeat' (first
  | (with_reducible first|refine zJx ?_|refine zGw ?_|refine zFz ?_|refine zEv ?_|refine zFy ?_|refine zJw ?_|refine zGv ?_|refine zCz ?_|refine zDw ?_|refine zCy ?_|refine zCv ?_|refine zEx ?_|refine zDz ?_|refine zCx ?_|refine zBx ?_|refine zEz ?_|refine zEy ?_|refine zAw ?_|refine zBy ?_)
  | refine zDy ?_|refine zEw rfl ?_|refine zIv ?_|refine zJy ?_
  | ((first|refine zGx rfl rfl rfl rfl rfl fun K_ hK_=>?_|refine zGy rfl rfl rfl rfl rfl fun K_ hK_=>?_);simp only [zAz,zDx,zGz,↓reduceIte,reduceCtorEq,Nat.reduceEqDiff,Bool.not_true,Bool.not_false];refine hK_ _ ?_;clear hK_ K_)
  | refine zDv (by decide) ?_
  | ((try first|refine zKy rfl rfl rfl ?_|refine zIw rfl rfl ?_|refine zKx rfl rfl rfl ?_|refine zJz rfl rfl ?_);(refine zIx fun Q_ hQ_=>?_;simp (disch:=first|omega|(simp only [List.length_cons,List.length_nil,List.length_append];omega)) only [bb,bp,zLx,↓reduceIte,reduceCtorEq,Nat.reduceEqDiff,Nat.reduceLT,Nat.reduceLeDiff,Nat.reduceAdd,Nat.reduceMul,Nat.reduceSub,Nat.reduceBEq,Int.reduceToNat,cond_true,cond_false,eq_self,beq_self_eq_true,hd0,hd1,hmk,hcp,f1,f2,wAz,zFw wf,zHx wf,zBv wf,zFx wf,zAy wf,zAx,tEvZ10,zIy,zIz,zHv,zHw,zAv wf];first|(refine zCw (Q:=Q_) (fun hp_=>?_) (fun hp_=>?_) <;> first|(exfalso;omega)|(refine hQ_ _ _ ?_;clear hQ_ Q_))|(refine zBw (Q:=Q_) (fun hp_=>?_) (fun hp_=>?_) <;> first|(exfalso;omega)|(refine hQ_ _ _ ?_;clear hQ_ Q_))|(refine hQ_ _ _ ?_;clear hQ_ Q_)|(refine zKv (cst _ _ (by first|omega|(simp only [List.length_append,List.length_cons,List.length_nil];omega))) ?_;refine hQ_ _ _ ?_;clear hQ_ Q_)|(refine zKv (creg _ _ (by first|omega|(simp only [List.length_append,List.length_cons,List.length_nil];omega))) ?_;refine hQ_ _ _ ?_;clear hQ_ Q_)|(refine zKv (crun _ _ (by first|omega|(simp only [List.length_append,List.length_cons,List.length_nil];omega))) ?_;refine hQ_ _ _ ?_;clear hQ_ Q_)))
  | (refine zHz fun K_ hK_=>?_;simp (disch:=omega) only [zFv,zAz,zHy,↓reduceIte,reduceCtorEq,Nat.reduceEqDiff,Nat.reduceLT];refine hK_ _ ?_;clear hK_ K_)))
  refine WC_rangeX wf rfl (zFv (by decide)) fun o ho=>?_
  simp only [zAz,↓reduceIte,reduceCtorEq,Nat.reduceEqDiff,List.append_assoc,List.cons_append,List.nil_append,List.length_append,List.length_cons,List.length_nil,Nat.zero_add,Nat.reduceAdd,Nat.add_assoc]
  have hrun':IsRun (bN ts) ts.length (fun i=>ss.getD i false) m:=hrun
  refine WV.mono (runs (bN ts) ts.length hT ht ss hss m hrun' b wf hst ⟨f1,f2⟩ 4 5 (many - ts.length+1) (by omega) (nx h 7) _ _ ?_ ?_
    (fun q L=>q≤many - ts.length∧L=[.cells (zBz [ii (many:Int)]) 3,.cells (zBz ((mL m (min ts.length many+q)).map bi++List.replicate (many - (min ts.length many+q)) (.int .i64 0))) 3,.cells (zBz [.sl (nx h 1) 0 many (some many) 1]) 22,.cells (zBz [ii ((min ts.length many+q:Nat):Int)]) 3,.cells (zBz (rg (bN ts) ts.length)) 59,.cells (zBz [b]) 22,.dfr,o])
    (fun L=>∃ o2,doneE o2∧L=[.cells (zBz [ii (many:Int)]) 3,.cells (zBz ((mL m (many)).map bi++List.replicate (many - (many)) (.int .i64 0))) 3,.cells (zBz [.sl (nx h 1) 0 many (some many) 1]) 22,.cells (zBz [ii ((many:Nat):Int)]) 3,.cells (zBz (rg (bN ts) ts.length)) 59,.cells (zBz [b]) 22,.dfr,o2]) ?_ ?_ ?_) ?_
  · show _≤h.clock+8
    omega
  · omega
  · rintro q L ⟨_,rfl⟩
    exact ⟨rfl,rfl,rfl⟩
  · rintro q hq L J w ⟨hqn,rfl⟩ hw1 hw2
    have hw2':w≤h.clock+(8+J.length):=hw2
    simp only [List.cons_append,List.nil_append]
    refine WV_yldX wf (k:=7) rfl ho (setParams1 rfl) ?_
    (repeat' (first
  | (with_reducible first|refine zJx ?_|refine zGw ?_|refine zFz ?_|refine zEv ?_|refine zFy ?_|refine zJw ?_|refine zGv ?_|refine zCz ?_|refine zDw ?_|refine zCy ?_|refine zCv ?_|refine zEx ?_|refine zDz ?_|refine zCx ?_|refine zBx ?_|refine zEz ?_|refine zEy ?_|refine zAw ?_|refine zBy ?_)
  | refine zDy ?_|refine zEw rfl ?_|refine zIv ?_|refine zJy ?_
  | ((first|refine zGx rfl rfl rfl rfl rfl fun K_ hK_=>?_|refine zGy rfl rfl rfl rfl rfl fun K_ hK_=>?_);simp only [zAz,zDx,zGz,↓reduceIte,reduceCtorEq,Nat.reduceEqDiff,Bool.not_true,Bool.not_false];refine hK_ _ ?_;clear hK_ K_)
  | refine zDv (by decide) ?_
  | ((try first|refine zKy rfl rfl rfl ?_|refine zIw rfl rfl ?_|refine zKx rfl rfl rfl ?_|refine zJz rfl rfl ?_);(refine zIx fun Q_ hQ_=>?_;simp (disch:=first|omega|(simp only [List.length_cons,List.length_nil,List.length_append];omega)) only [bb,bp,zLx,↓reduceIte,reduceCtorEq,Nat.reduceEqDiff,Nat.reduceLT,Nat.reduceLeDiff,Nat.reduceAdd,Nat.reduceMul,Nat.reduceSub,Nat.reduceBEq,Int.reduceToNat,cond_true,cond_false,eq_self,beq_self_eq_true,zFw wf,zHx wf,zBv wf,zFx wf,zAy wf,zAx,tEvZ10,zIy,zIz,zHv,zHw,zAv wf];first|(refine zCw (Q:=Q_) (fun hp_=>?_) (fun hp_=>?_) <;> first|(exfalso;omega)|(refine hQ_ _ _ ?_;clear hQ_ Q_))|(refine zBw (Q:=Q_) (fun hp_=>?_) (fun hp_=>?_) <;> first|(exfalso;omega)|(refine hQ_ _ _ ?_;clear hQ_ Q_))|(refine hQ_ _ _ ?_;clear hQ_ Q_)))
  | (refine zHz fun K_ hK_=>?_;simp (disch:=omega) only [zFv,zAz,zHy,↓reduceIte,reduceCtorEq,Nat.reduceEqDiff,Nat.reduceLT];refine hK_ _ ?_;clear hK_ K_)))
    refine yldA_X wf (k:=7) rfl ho fun o' ho'=>?_
    simp only [List.set_cons_succ,List.set_cons_zero]
    by_cases he:min ts.length many+q=many
    · rw [he]
      (repeat' (first
  | (with_reducible first|refine zJx ?_|refine zGw ?_|refine zFz ?_|refine zEv ?_|refine zFy ?_|refine zJw ?_|refine zGv ?_|refine zCz ?_|refine zDw ?_|refine zCy ?_|refine zCv ?_|refine zEx ?_|refine zDz ?_|refine zCx ?_|refine zBx ?_|refine zEz ?_|refine zEy ?_|refine zAw ?_|refine zBy ?_)
  | refine zDy ?_|refine zEw rfl ?_|refine zIv ?_|refine zJy ?_
  | ((first|refine zGx rfl rfl rfl rfl rfl fun K_ hK_=>?_|refine zGy rfl rfl rfl rfl rfl fun K_ hK_=>?_);simp only [zAz,zDx,zGz,↓reduceIte,reduceCtorEq,Nat.reduceEqDiff,Bool.not_true,Bool.not_false];refine hK_ _ ?_;clear hK_ K_)
  | refine zDv (by decide) ?_
  | ((try first|refine zKy rfl rfl rfl ?_|refine zIw rfl rfl ?_|refine zKx rfl rfl rfl ?_|refine zJz rfl rfl ?_);(refine zIx fun Q_ hQ_=>?_;simp (disch:=first|omega|(simp only [List.length_cons,List.length_nil,List.length_append];omega)) only [bb,bp,zLx,↓reduceIte,reduceCtorEq,Nat.reduceEqDiff,Nat.reduceLT,Nat.reduceLeDiff,Nat.reduceAdd,Nat.reduceMul,Nat.reduceSub,Nat.reduceBEq,Int.reduceToNat,cond_true,cond_false,eq_self,beq_self_eq_true,f1,f2,zFw wf,zHx wf,zBv wf,zFx wf,zAy wf,zAx,tEvZ10,zIy,zIz,zHv,zHw,zAv wf];first|(refine zCw (Q:=Q_) (fun hp_=>?_) (fun hp_=>?_) <;> first|(exfalso;omega)|(refine hQ_ _ _ ?_;clear hQ_ Q_))|(refine zBw (Q:=Q_) (fun hp_=>?_) (fun hp_=>?_) <;> first|(exfalso;omega)|(refine hQ_ _ _ ?_;clear hQ_ Q_))|(refine hQ_ _ _ ?_;clear hQ_ Q_)))
  | (refine zHz fun K_ hK_=>?_;simp (disch:=omega) only [zFv,zAz,zHy,↓reduceIte,reduceCtorEq,Nat.reduceEqDiff,Nat.reduceLT];refine hK_ _ ?_;clear hK_ K_)))
      refine xLz wf (k:=7) rfl ho' fun o2 ho2=>?_
      simp only [List.set_cons_succ,List.set_cons_zero]
      refine ⟨[.cells (zBz [ii (many:Int)]) 3,.cells (zBz ((mL m (many)).map bi++List.replicate (many - (many)) (.int .i64 0))) 3,.cells (zBz [.sl (nx h 1) 0 many (some many) 1]) 22,.cells (zBz [ii ((many:Nat):Int)]) 3,.cells (zBz (rg (bN ts) ts.length)) 59,.cells (zBz [b]) 22,.dfr,o2],[],_,by rw [List.append_nil];rfl,by omega,?_,.inr ⟨by first|rfl|trivial,rfl,o2,⟨_,_,_,_,_,_,_,ho2⟩,rfl⟩⟩
      show _<h.clock+8
      omega
    · have hmin:min ts.length many=ts.length:=by omega
      rw [hmin] at he ⊢
      have hne : ¬ ((ts.length+q:Nat):Int)=(many:Int):=by omega
      have hlt:ts.length+q<many:=by omega
      have hia:indexAddrE Try.prog 22 (.sl (nx h 1) 0 many (some many) 1) (.int .i64 ((ts.length+q:Nat):Int))=some (.ptr (nx h 1) (ts.length+q)):=by
        have ht:toNatE (.int .i64 ((ts.length+q:Nat):Int))=some (ts.length+q):=by rw [xCx (by omega),Int.toNat_natCast]
        simp only [yTx,ht,zQz,yXw hlt,Nat.zero_add,Nat.mul_one]
      have e5:List.replicate (many - (ts.length+q)) (AV.int .i64 0) = .int .i64 0 :: List.replicate (many - (ts.length+(q+1))) (.int .i64 0):=by
        rw [show many - (ts.length+q)=many - (ts.length+(q+1))+1 by omega,List.replicate_succ]
      have e6:(mL m (ts.length+(q+1))).map bi=(mL m (ts.length+q)).map bi++[bi (m (ts.length+q))]:=by rw [← Nat.add_assoc,mL_succ,List.map_append];rfl
      have hplus:((ts.length+q:Nat):Int)+1=((ts.length+(q+1):Nat):Int):=by omega
      rw [e5]
      have hCl:((mL m (ts.length+q)).map bi).length=ts.length+q:=by rw [List.length_map,mL_length]
      generalize hC:(mL m (ts.length+q)).map bi=C at *
      generalize hR:List.replicate (many - (ts.length+(q+1))) (AV.int .i64 0)=R at *
      have hob:oneB (bi (m (ts.length+q)))=true:=rfl
      have hob2:AV.cells (bi (m (ts.length+q)))=[bi (m (ts.length+q))]:=rfl
      generalize bi (m (ts.length+q))=bm at *
      have hst2 : ∀ (o0:AO) (l:List AO) w,store1 (nx h 1) (ts.length+q) bm (X h (o0 :: .cells (zBz (C ++ .int .i64 0 :: R)) 3 :: l) w)=some (X h (o0 :: .cells (zBz ((C++[bm])++R)) 3 :: l) (min (h.clock+1) w)):=fun o0 l w=>by
        have e:storeAt (some (.cells (zBz (C ++ .int .i64 0 :: R)) 3)) (ts.length+q) bm=some (.cells (zBz ((C++[bm])++R)) 3):=by
          rw [yWz,hob,cond_true,if_pos (by simp;omega),← hCl,List.set_append_right _ _ (Nat.le_refl _),Nat.sub_self,List.set_cons_zero,List.append_assoc];rfl
        rw [zFx wf]
        show (match storeAt (some (.cells (zBz (C ++ .int .i64 0 :: R)) 3)) (ts.length+q) bm with|some o'=>_|none=>_)=_
        rw [e]
        rfl
      (repeat' (first
  | (with_reducible first|refine zJx ?_|refine zGw ?_|refine zFz ?_|refine zEv ?_|refine zFy ?_|refine zJw ?_|refine zGv ?_|refine zCz ?_|refine zDw ?_|refine zCy ?_|refine zCv ?_|refine zEx ?_|refine zDz ?_|refine zCx ?_|refine zBx ?_|refine zEz ?_|refine zEy ?_|refine zAw ?_|refine zBy ?_)
  | refine zDy ?_|refine zEw rfl ?_|refine zIv ?_|refine zJy ?_
  | ((first|refine zGx rfl rfl rfl rfl rfl fun K_ hK_=>?_|refine zGy rfl rfl rfl rfl rfl fun K_ hK_=>?_);simp only [zAz,zDx,zGz,↓reduceIte,reduceCtorEq,Nat.reduceEqDiff,Bool.not_true,Bool.not_false];refine hK_ _ ?_;clear hK_ K_)
  | refine zDv (by decide) ?_
  | ((try first|refine zKy rfl rfl rfl ?_|refine zIw rfl rfl ?_|refine zKx rfl rfl rfl ?_|refine zJz rfl rfl ?_);(refine zIx fun Q_ hQ_=>?_;simp (disch:=first|omega|(simp only [List.length_cons,List.length_nil,List.length_append];omega)) only [bb,bp,zLx,↓reduceIte,reduceCtorEq,Nat.reduceEqDiff,Nat.reduceLT,Nat.reduceLeDiff,Nat.reduceAdd,Nat.reduceMul,Nat.reduceSub,Nat.reduceBEq,Int.reduceToNat,cond_true,cond_false,eq_self,beq_self_eq_true,f1,f2,hia,hst2,hplus,hob,hob2,zFw wf,zHx wf,zBv wf,zFx wf,zAy wf,zAx,tEvZ10,zIy,zIz,zHv,zHw,zAv wf];first|(refine zCw (Q:=Q_) (fun hp_=>?_) (fun hp_=>?_) <;> first|(exfalso;omega)|(refine hQ_ _ _ ?_;clear hQ_ Q_))|(refine zBw (Q:=Q_) (fun hp_=>?_) (fun hp_=>?_) <;> first|(exfalso;omega)|(refine hQ_ _ _ ?_;clear hQ_ Q_))|(refine hQ_ _ _ ?_;clear hQ_ Q_)))
  | (refine zHz fun K_ hK_=>?_;simp (disch:=omega) only [zFv,zAz,zHy,↓reduceIte,reduceCtorEq,Nat.reduceEqDiff,Nat.reduceLT];refine hK_ _ ?_;clear hK_ K_)))
      refine yldB_X wf (k:=7) rfl ho' ?_
      simp only [List.set_cons_succ,List.set_cons_zero]
      rw [← ho]
      refine ⟨[.cells (zBz [ii (many:Int)]) 3,.cells (zBz ((mL m (ts.length+(q+1))).map bi++List.replicate (many - (ts.length+(q+1))) (.int .i64 0))) 3,.cells (zBz [.sl (nx h 1) 0 many (some many) 1]) 22,.cells (zBz [ii ((ts.length+(q+1):Nat):Int)]) 3,.cells (zBz (rg (bN ts) ts.length)) 59,.cells (zBz [b]) 22,.dfr,o],[],_,by rw [List.append_nil,e6,hR,List.append_assoc];rfl,by omega,?_,.inl ⟨by first|rfl|trivial,by omega,by omega,by rw [hR]⟩⟩
      show _<h.clock+8
      omega
  · exact ⟨by omega,rfl⟩
  · rintro v h' ⟨L,J,w,rfl,hlo,hw,hl7,o2,⟨g',n',tm',ps',sg',bd',dd',ho2⟩,rfl⟩
    have hw':w≤h.clock+8:=hw
    simp only [List.cons_append,List.nil_append]
    refine rangeQ_X wf (k:=7) rfl ho2 (by decide) fun o' ho'=>?_
    simp only [List.set_cons_succ,List.set_cons_zero]
    (repeat' (first
  | (with_reducible first|refine zJx ?_|refine zGw ?_|refine zFz ?_|refine zEv ?_|refine zFy ?_|refine zJw ?_|refine zGv ?_|refine zCz ?_|refine zDw ?_|refine zCy ?_|refine zCv ?_|refine zEx ?_|refine zDz ?_|refine zCx ?_|refine zBx ?_|refine zEz ?_|refine zEy ?_|refine zAw ?_|refine zBy ?_)
  | refine zDy ?_|refine zEw rfl ?_|refine zIv ?_|refine zJy ?_
  | ((first|refine zGx rfl rfl rfl rfl rfl fun K_ hK_=>?_|refine zGy rfl rfl rfl rfl rfl fun K_ hK_=>?_);simp only [zAz,zDx,zGz,↓reduceIte,reduceCtorEq,Nat.reduceEqDiff,Bool.not_true,Bool.not_false];refine hK_ _ ?_;clear hK_ K_)
  | refine zDv (by decide) ?_
  | ((try first|refine zKy rfl rfl rfl ?_|refine zIw rfl rfl ?_|refine zKx rfl rfl rfl ?_|refine zJz rfl rfl ?_);(refine zIx fun Q_ hQ_=>?_;simp (disch:=first|omega|(simp only [List.length_cons,List.length_nil,List.length_append];omega)) only [bb,bp,zLx,↓reduceIte,reduceCtorEq,Nat.reduceEqDiff,Nat.reduceLT,Nat.reduceLeDiff,Nat.reduceAdd,Nat.reduceMul,Nat.reduceSub,Nat.reduceBEq,Int.reduceToNat,cond_true,cond_false,eq_self,beq_self_eq_true,f1,f2,zFw wf,zHx wf,zBv wf,zFx wf,zAy wf,zAx,tEvZ10,zIy,zIz,zHv,zHw,zAv wf];first|(refine zCw (Q:=Q_) (fun hp_=>?_) (fun hp_=>?_) <;> first|(exfalso;omega)|(refine hQ_ _ _ ?_;clear hQ_ Q_))|(refine zBw (Q:=Q_) (fun hp_=>?_) (fun hp_=>?_) <;> first|(exfalso;omega)|(refine hQ_ _ _ ?_;clear hQ_ Q_))|(refine hQ_ _ _ ?_;clear hQ_ Q_)))
  | (refine zHz fun K_ hK_=>?_;simp (disch:=omega) only [zFv,zAz,zHy,↓reduceIte,reduceCtorEq,Nat.reduceEqDiff,Nat.reduceLT];refine hK_ _ ?_;clear hK_ K_)))
    refine zJv _ _ (takeAll_X wf (k:=6) rfl) (ret2 (by decide) (by decide)) ?_
    simp only [zAz,↓reduceIte,reduceCtorEq,Nat.reduceEqDiff]
    refine WV_ext (by exact Bool.and_false _) ?_
    have hwe:min h.w (min (h.clock+6) (min (h.clock+7) w))=h.w:=by have:=wf.wle;omega
    rw [hwe,Nat.sub_self,List.replicate_zero,List.append_nil]
    exact ⟨_,rfl,rfl,rfl⟩
end Go.Proofs.Ytmincoafjnnkpaa
end

section
namespace Go.Proofs.Ytmincoafjnnkpaa
open Go.Ev
set_option maxRecDepth 100000
set_option linter.unusedSimpArgs false
set_option linter.unusedVariables false
set_option maxHeartbeats 2000000
end Go.Proofs.Ytmincoafjnnkpaa
end

section
namespace Go.Proofs.Ytmincoafjnnkpaa
open Go.Ev
set_option maxRecDepth 100000
set_option linter.unusedSimpArgs false
set_option linter.unusedVariables false
set_option maxHeartbeats 2000000
theorem tEvZ12 :type_of% (And.intro (And.intro (And.intro (And.intro (And.intro (And.intro (And.intro (@yQv) (@yQw)) (And.intro (@yQx) (@yQy))) (And.intro (And.intro (@yQz) (@yPv)) (And.intro (@ia_2) (And.intro (@ia_3) (@ia_4))))) (And.intro (And.intro (And.intro (@ia_5) (@yPw)) (And.intro (@yPx) (@yPy))) (And.intro (And.intro (@yPz) (@yOv)) (And.intro (@yOw) (And.intro (@zSz) (@yOx)))))) (And.intro (And.intro (And.intro (And.intro (@yOy) (@yOz)) (And.intro (@yNv) (@yNw))) (And.intro (And.intro (@yNx) (@yNy)) (And.intro (@yNz) (And.intro (@yMv) (@sz_2))))) (And.intro (And.intro (And.intro (@sz_3) (@sz_4)) (And.intro (@sz_5) (And.intro (@zYv) (@zYw)))) (And.intro (And.intro (@zYx) (@zYy)) (And.intro (@zYz) (And.intro (@zXv) (@zRx))))))) (And.intro (And.intro (And.intro (And.intro (And.intro (@zXw) (@zXx)) (And.intro (@zXy) (@zQy))) (And.intro (And.intro (@zXz) (@zWv)) (And.intro (@zWw) (And.intro (@zWx) (@zWy))))) (And.intro (And.intro (And.intro (@ze_2) (@ze_3)) (And.intro (@ze_4) (And.intro (@ze_5) (@zWz)))) (And.intro (And.intro (@zVv) (@zVw)) (And.intro (@zVx) (And.intro (@zVy) (@zVz)))))) (And.intro (And.intro (And.intro (And.intro (@zUv) (@zUw)) (And.intro (@zUx) (@zUy))) (And.intro (And.intro (@zUz) (@zTv)) (And.intro (@zTw) (And.intro (@zTx) (@zTy))))) (And.intro (And.intro (And.intro (@zNv) (@zNw)) (And.intro (@zNx) (And.intro (@zNy) (@zNz)))) (And.intro (And.intro (@zMv) (@zMw)) (And.intro (@zMx) (And.intro (@zMy) (@yMy)))))))) (And.intro (And.intro (And.intro (And.intro (And.intro (And.intro (@yMz) (@yLv)) (And.intro (@yLw) (@yLx))) (And.intro (And.intro (@yLy) (@yLz)) (And.intro (@yKv) (And.intro (@yKw) (@yKx))))) (And.intro (And.intro (And.intro (@yKy) (@yKz)) (And.intro (@yJv) (@yJw))) (And.intro (And.intro (@yJx) (@yJy)) (And.intro (@yJz) (And.intro (@yIv) (@yIw)))))) (And.intro (And.intro (And.intro (And.intro (@yIx) (@yIy)) (And.intro (@yIz) (@yHv))) (And.intro (And.intro (@yHw) (@yHx)) (And.intro (@yHy) (And.intro (@yHz) (@yGv))))) (And.intro (And.intro (And.intro (@yGw) (@yGx)) (And.intro (@yGy) (And.intro (@yGz) (@yFv)))) (And.intro (And.intro (@yFw) (@yFx)) (And.intro (@yFy) (And.intro (@yFz) (@yEv))))))) (And.intro (And.intro (And.intro (And.intro (And.intro (@yEw) (@yEx)) (And.intro (@yEy) (@yEz))) (And.intro (And.intro (@yDv) (@yDw)) (And.intro (@yDx) (And.intro (@yDy) (@yDz))))) (And.intro (And.intro (And.intro (@yCv) (@yCw)) (And.intro (@yCx) (And.intro (@yCy) (@yCz)))) (And.intro (And.intro (@zSx) (@yBv)) (And.intro (@yBw) (And.intro (@yBx) (@yBy)))))) (And.intro (And.intro (And.intro (And.intro (@yBz) (@yAv)) (And.intro (@yAw) (@yAx))) (And.intro (And.intro (@yAy) (@yAz)) (And.intro (@zZv) (And.intro (@zZw) (@zZx))))) (And.intro (And.intro (And.intro (@zZy) (@zZz)) (And.intro (@zQz) (And.intro (@yMw) (@zTz)))) (And.intro (And.intro (@zQv) (@zSv)) (And.intro (@zSw) (And.intro (@yMx) (@zRv))))))))):=And.intro (And.intro (And.intro (And.intro (And.intro (And.intro (And.intro (@yQv) (@yQw)) (And.intro (@yQx) (@yQy))) (And.intro (And.intro (@yQz) (@yPv)) (And.intro (@ia_2) (And.intro (@ia_3) (@ia_4))))) (And.intro (And.intro (And.intro (@ia_5) (@yPw)) (And.intro (@yPx) (@yPy))) (And.intro (And.intro (@yPz) (@yOv)) (And.intro (@yOw) (And.intro (@zSz) (@yOx)))))) (And.intro (And.intro (And.intro (And.intro (@yOy) (@yOz)) (And.intro (@yNv) (@yNw))) (And.intro (And.intro (@yNx) (@yNy)) (And.intro (@yNz) (And.intro (@yMv) (@sz_2))))) (And.intro (And.intro (And.intro (@sz_3) (@sz_4)) (And.intro (@sz_5) (And.intro (@zYv) (@zYw)))) (And.intro (And.intro (@zYx) (@zYy)) (And.intro (@zYz) (And.intro (@zXv) (@zRx))))))) (And.intro (And.intro (And.intro (And.intro (And.intro (@zXw) (@zXx)) (And.intro (@zXy) (@zQy))) (And.intro (And.intro (@zXz) (@zWv)) (And.intro (@zWw) (And.intro (@zWx) (@zWy))))) (And.intro (And.intro (And.intro (@ze_2) (@ze_3)) (And.intro (@ze_4) (And.intro (@ze_5) (@zWz)))) (And.intro (And.intro (@zVv) (@zVw)) (And.intro (@zVx) (And.intro (@zVy) (@zVz)))))) (And.intro (And.intro (And.intro (And.intro (@zUv) (@zUw)) (And.intro (@zUx) (@zUy))) (And.intro (And.intro (@zUz) (@zTv)) (And.intro (@zTw) (And.intro (@zTx) (@zTy))))) (And.intro (And.intro (And.intro (@zNv) (@zNw)) (And.intro (@zNx) (And.intro (@zNy) (@zNz)))) (And.intro (And.intro (@zMv) (@zMw)) (And.intro (@zMx) (And.intro (@zMy) (@yMy)))))))) (And.intro (And.intro (And.intro (And.intro (And.intro (And.intro (@yMz) (@yLv)) (And.intro (@yLw) (@yLx))) (And.intro (And.intro (@yLy) (@yLz)) (And.intro (@yKv) (And.intro (@yKw) (@yKx))))) (And.intro (And.intro (And.intro (@yKy) (@yKz)) (And.intro (@yJv) (@yJw))) (And.intro (And.intro (@yJx) (@yJy)) (And.intro (@yJz) (And.intro (@yIv) (@yIw)))))) (And.intro (And.intro (And.intro (And.intro (@yIx) (@yIy)) (And.intro (@yIz) (@yHv))) (And.intro (And.intro (@yHw) (@yHx)) (And.intro (@yHy) (And.intro (@yHz) (@yGv))))) (And.intro (And.intro (And.intro (@yGw) (@yGx)) (And.intro (@yGy) (And.intro (@yGz) (@yFv)))) (And.intro (And.intro (@yFw) (@yFx)) (And.intro (@yFy) (And.intro (@yFz) (@yEv))))))) (And.intro (And.intro (And.intro (And.intro (And.intro (@yEw) (@yEx)) (And.intro (@yEy) (@yEz))) (And.intro (And.intro (@yDv) (@yDw)) (And.intro (@yDx) (And.intro (@yDy) (@yDz))))) (And.intro (And.intro (And.intro (@yCv) (@yCw)) (And.intro (@yCx) (And.intro (@yCy) (@yCz)))) (And.intro (And.intro (@zSx) (@yBv)) (And.intro (@yBw) (And.intro (@yBx) (@yBy)))))) (And.intro (And.intro (And.intro (And.intro (@yBz) (@yAv)) (And.intro (@yAw) (@yAx))) (And.intro (And.intro (@yAy) (@yAz)) (And.intro (@zZv) (And.intro (@zZw) (@zZx))))) (And.intro (And.intro (And.intro (@zZy) (@zZz)) (And.intro (@zQz) (And.intro (@yMw) (@zTz)))) (And.intro (And.intro (@zQv) (@zSv)) (And.intro (@zSw) (And.intro (@yMx) (@zRv))))))))
theorem works (h:H):(om Try.prog KK).call (.fn 15 []) h = .ok (.bool true) h:=by
  refine om_con (c:=cW) (r:=[]) ?_
  rfl
def regE (bs ts:List Bool):Int:=if makesB (bN ts) ts.length (sq bs) bs.length then 0 else 14
theorem makesB_wrong {T L:Nat} {s:Nat→Bool} {n r:Nat} (h:WrongAt T L s n r):makesB T L s n=decide (¬ r<n):=by
  rcases h with ⟨h1,rfl⟩|⟨h1,h2,h3,h4,h5⟩
  · have:makesB T L s r=true:=zRz.2 fun i a b=>by omega
    rw [this];simp
  · by_cases h6:r<n
    · have:makesB T L s n=false:=by
        cases hm:makesB T L s n with
        | false=>rfl
        | true=>exact absurd (zRz.1 hm r h2 h6) (h5 h6)
      rw [this];simp [h6]
    · have:r=n:=by omega
      subst this
      rw [zRz.2 h4];simp
def errReg (xs ys:List Int):Int:=if err2 xs ys=0 then regE (bitL xs) (bitL ys) else err2 xs ys
theorem err2_ok {xs ys:List Int} (h:err2 xs ys=0):(xs.length≤128∧good xs=true)∧ys.length≤128∧good ys=true:=by
  unfold err2 at h
  split at h
  · rename_i h2;exact ⟨xMw.1 h2,xMw.1 h⟩
  · contradiction
theorem checkRegister (xs ys:List Int) (a b:AV) (ha:CapU 1 a) (h:H) (wf:Wf h) (hs:Sl h a 1 xs.length (xs.map ii)) (ht:Sl h b 1 ys.length (ys.map ii)):(om Try.prog KK).call (.fn 21 [a,b]) h = .ok (ii (errReg xs ys)) h:=by
  have hl : ∀ h',lenE Try.prog 22 a h'=some (ii (xs.length:Int)):=fun h'=>hs.len yRw
  have c1 : ∀ (l:List AO) (w:Nat),w≤h.clock+l.length→(om Try.prog KK).call (.fn 46 [a,b]) (X h l w) = .ok (ii (err2 xs ys)) (X h l w):=fun l w hw=>checkBoth xs ys a b _ (wf.X hw) (hs.up wf l w) (ht.up wf l w)
  unfold errReg
  by_cases he:err2 xs ys=0
  · rw [if_pos he]
    rw [he] at c1
    obtain ⟨⟨hx1,hx2⟩,hy1,hy2⟩:=err2_ok he
    have hs':Sl h a 1 (bitL xs).length ((bitL xs).map bi):=by rw [zKw,← ySw hx2];exact hs
    have ht':Sl h b 1 (bitL ys).length ((bitL ys).map bi):=by rw [zKw,← ySw hy2];exact ht
    have hxl:=zKw xs
    have hyl:=zKw ys
    have c2 : ∀ (l:List AO) (w:Nat),w≤h.clock+l.length→(om Try.prog KK).call (.fn 42 [b]) (X h l w) = .ok (.agg (rg (bN (bitL ys)) (bitL ys).length)) (X h l w):=fun l w hw=>registerOf (bitL ys) (by omega) b _ (wf.X hw) (ht'.up wf l w)
    have c3 : ∀ (l:List AO) (w:Nat),w≤h.clock+l.length → ∃ r,WrongAt (bN (bitL ys)) (bitL ys).length (sq (bitL xs)) (bitL xs).length r∧(om Try.prog KK).call (.fn 47 [.agg (rg (bN (bitL ys)) (bitL ys).length),a]) (X h l w) = .ok (ii (r:Int)) (X h l w):=fun l w hw=>by
      obtain ⟨v,h',e,r,hr,rfl,rfl⟩:=wrong (bN (bitL ys)) (bitL ys).length (xPw (by omega)) (by omega) (bitL xs) (by omega) a ha _ (wf.X hw) (hs'.up wf l w)
      exact ⟨r,hr,e⟩
    obtain ⟨r,hr,c3⟩:=c3 [] h.clock (by simp)
    have hm:=makesB_wrong hr
    have hrl:r≤xs.length:=by
      rcases hr with ⟨_,rfl⟩|⟨_,_,h3,_⟩ <;> omega
    unfold regE
    rw [hm]
    rw [hxl] at *
    refine zPv (zLw (fn:=Try.f21) Try.func21 rfl rfl rfl rfl rfl ?_)
    simp only [zLx]
    (repeat' (first
  | (with_reducible first|refine zJx ?_|refine zGw ?_|refine zFz ?_|refine zEv ?_|refine zFy ?_|refine zJw ?_|refine zGv ?_|refine zCz ?_|refine zDw ?_|refine zCy ?_|refine zCv ?_|refine zEx ?_|refine zDz ?_|refine zCx ?_|refine zBx ?_|refine zEz ?_|refine zEy ?_|refine zAw ?_|refine zBy ?_)
  | refine zDy ?_|refine zEw rfl ?_|refine zIv ?_|refine zJy ?_
  | ((first|refine zGx rfl rfl rfl rfl rfl fun K_ hK_=>?_|refine zGy rfl rfl rfl rfl rfl fun K_ hK_=>?_);simp only [zAz,zDx,zGz,↓reduceIte,reduceCtorEq,Nat.reduceEqDiff,Bool.not_true,Bool.not_false];refine hK_ _ ?_;clear hK_ K_)
  | refine zDv (by decide) ?_
  | ((try first|refine zKy rfl rfl rfl ?_|refine zIw rfl rfl ?_|refine zKx rfl rfl rfl ?_|refine zJz rfl rfl ?_);(refine zIx fun Q_ hQ_=>?_;simp (disch:=first|omega|(simp only [List.length_cons,List.length_nil,List.length_append];omega)) only [bb,bp,zLx,↓reduceIte,reduceCtorEq,Nat.reduceEqDiff,Nat.reduceLT,Nat.reduceLeDiff,Nat.reduceAdd,Nat.reduceMul,Nat.reduceSub,Nat.reduceBEq,Int.reduceToNat,cond_true,cond_false,eq_self,beq_self_eq_true,hl,zFw wf,zHx wf,zBv wf,zFx wf,zAy wf,zAx,tEvZ12,zIy,zIz,zHv,zHw,zAv wf];first|(refine zCw (Q:=Q_) (fun hp_=>?_) (fun hp_=>?_) <;> first|(exfalso;omega)|(refine hQ_ _ _ ?_;clear hQ_ Q_))|(refine zBw (Q:=Q_) (fun hp_=>?_) (fun hp_=>?_) <;> first|(exfalso;omega)|(refine hQ_ _ _ ?_;clear hQ_ Q_))|(refine hQ_ _ _ ?_;clear hQ_ Q_)|(refine zKv (c1 _ _ (by first|omega|(simp only [List.length_append,List.length_cons,List.length_nil];omega))) ?_;refine hQ_ _ _ ?_;clear hQ_ Q_)|(refine zKv (c2 _ _ (by first|omega|(simp only [List.length_append,List.length_cons,List.length_nil];omega))) ?_;refine hQ_ _ _ ?_;clear hQ_ Q_)|(refine zKv (c3) ?_;refine hQ_ _ _ ?_;clear hQ_ Q_)))
  | (refine zHz fun K_ hK_=>?_;simp (disch:=omega) only [zFv,zAz,zHy,↓reduceIte,reduceCtorEq,Nat.reduceEqDiff,Nat.reduceLT];refine hK_ _ ?_;clear hK_ K_)))
    all_goals (refine zJv _ _ rfl (ret1 (by decide)) ?_;simp only [zAz,↓reduceIte,reduceCtorEq,Nat.reduceEqDiff];refine zLz rfl (by omega) ?_)
    · exact ⟨by rw [if_neg (by simp;omega)],rfl⟩
    · exact ⟨by rw [if_pos (by simp;omega)],rfl⟩
  · rw [if_neg he]
    generalize err2 xs ys=e at *
    refine zPv (zLw (fn:=Try.f21) Try.func21 rfl rfl rfl rfl rfl ?_)
    simp only [zLx]
    (repeat' (first
  | (with_reducible first|refine zJx ?_|refine zGw ?_|refine zFz ?_|refine zEv ?_|refine zFy ?_|refine zJw ?_|refine zGv ?_|refine zCz ?_|refine zDw ?_|refine zCy ?_|refine zCv ?_|refine zEx ?_|refine zDz ?_|refine zCx ?_|refine zBx ?_|refine zEz ?_|refine zEy ?_|refine zAw ?_|refine zBy ?_)
  | refine zDy ?_|refine zEw rfl ?_|refine zIv ?_|refine zJy ?_
  | ((first|refine zGx rfl rfl rfl rfl rfl fun K_ hK_=>?_|refine zGy rfl rfl rfl rfl rfl fun K_ hK_=>?_);simp only [zAz,zDx,zGz,↓reduceIte,reduceCtorEq,Nat.reduceEqDiff,Bool.not_true,Bool.not_false];refine hK_ _ ?_;clear hK_ K_)
  | refine zDv (by decide) ?_
  | ((try first|refine zKy rfl rfl rfl ?_|refine zIw rfl rfl ?_|refine zKx rfl rfl rfl ?_|refine zJz rfl rfl ?_);(refine zIx fun Q_ hQ_=>?_;simp (disch:=first|omega|(simp only [List.length_cons,List.length_nil,List.length_append];omega)) only [bb,bp,zLx,↓reduceIte,reduceCtorEq,Nat.reduceEqDiff,Nat.reduceLT,Nat.reduceLeDiff,Nat.reduceAdd,Nat.reduceMul,Nat.reduceSub,Nat.reduceBEq,Int.reduceToNat,cond_true,cond_false,eq_self,beq_self_eq_true,hl,zFw wf,zHx wf,zBv wf,zFx wf,zAy wf,zAx,tEvZ12,zIy,zIz,zHv,zHw,zAv wf];first|(refine zCw (Q:=Q_) (fun hp_=>?_) (fun hp_=>?_) <;> first|(exfalso;omega)|(refine hQ_ _ _ ?_;clear hQ_ Q_))|(refine zBw (Q:=Q_) (fun hp_=>?_) (fun hp_=>?_) <;> first|(exfalso;omega)|(refine hQ_ _ _ ?_;clear hQ_ Q_))|(refine hQ_ _ _ ?_;clear hQ_ Q_)|(refine zKv (c1 _ _ (by first|omega|(simp only [List.length_append,List.length_cons,List.length_nil];omega))) ?_;refine hQ_ _ _ ?_;clear hQ_ Q_)))
  | (refine zHz fun K_ hK_=>?_;simp (disch:=omega) only [zFv,zAz,zHy,↓reduceIte,reduceCtorEq,Nat.reduceEqDiff,Nat.reduceLT];refine hK_ _ ?_;clear hK_ K_)))
    all_goals (refine zJv _ _ rfl (ret1 (by decide)) ?_;simp only [zAz,↓reduceIte,reduceCtorEq,Nat.reduceEqDiff];refine zLz rfl (by omega) ?_)
    all_goals exact ⟨rfl,rfl⟩
theorem rcheckRegister (xs ys:List Int) (a b:AV) (ha:CapU 1 a) (h:H) (wf:Wf h) (hs:Sl h a 1 xs.length (xs.map ii)) (ht:Sl h b 1 ys.length (ys.map ii)):(om Try.prog KK).call (.fn 22 [a,b]) h = .ok (ii (errReg xs ys)) h:=by
  have hl : ∀ h',lenE Try.prog 22 a h'=some (ii (xs.length:Int)):=fun h'=>hs.len yRw
  have c1 : ∀ (l:List AO) (w:Nat),w≤h.clock+l.length→(om Try.prog KK).call (.fn 48 [a,b]) (X h l w) = .ok (ii (err2 xs ys)) (X h l w):=fun l w hw=>rtwo xs ys a b _ (wf.X hw) (hs.up wf l w) (ht.up wf l w)
  unfold errReg
  by_cases he:err2 xs ys=0
  · rw [if_pos he]
    rw [he] at c1
    obtain ⟨⟨hx1,hx2⟩,hy1,hy2⟩:=err2_ok he
    have hs':Sl h a 1 (bitL xs).length ((bitL xs).map bi):=by rw [zKw,← ySw hx2];exact hs
    have ht':Sl h b 1 (bitL ys).length ((bitL ys).map bi):=by rw [zKw,← ySw hy2];exact ht
    have hxl:=zKw xs
    have hyl:=zKw ys
    have c2 : ∀ (l:List AO) (w:Nat),w≤h.clock+l.length→(om Try.prog KK).call (.fn 38 [a,b]) (X h l w) = .ok (.bool (makesB (bN (bitL ys)) (bitL ys).length (sq (bitL xs)) (bitL xs).length)) (X h l w):=fun l w hw=>rMakes (bitL xs) (bitL ys) (by omega) a b ha _ (wf.X hw) (hs'.up wf l w) (ht'.up wf l w) (by omega)
    unfold regE
    generalize makesB (bN (bitL ys)) (bitL ys).length (sq (bitL xs)) (bitL xs).length=mk at *
    refine zPv (zLw (fn:=Try.f22) Try.func22 rfl rfl rfl rfl rfl ?_)
    simp only [zLx]
    cases mk
    · (repeat' (first
  | (with_reducible first|refine zJx ?_|refine zGw ?_|refine zFz ?_|refine zEv ?_|refine zFy ?_|refine zJw ?_|refine zGv ?_|refine zCz ?_|refine zDw ?_|refine zCy ?_|refine zCv ?_|refine zEx ?_|refine zDz ?_|refine zCx ?_|refine zBx ?_|refine zEz ?_|refine zEy ?_|refine zAw ?_|refine zBy ?_)
  | refine zDy ?_|refine zEw rfl ?_|refine zIv ?_|refine zJy ?_
  | ((first|refine zGx rfl rfl rfl rfl rfl fun K_ hK_=>?_|refine zGy rfl rfl rfl rfl rfl fun K_ hK_=>?_);simp only [zAz,zDx,zGz,↓reduceIte,reduceCtorEq,Nat.reduceEqDiff,Bool.not_true,Bool.not_false];refine hK_ _ ?_;clear hK_ K_)
  | refine zDv (by decide) ?_
  | ((try first|refine zKy rfl rfl rfl ?_|refine zIw rfl rfl ?_|refine zKx rfl rfl rfl ?_|refine zJz rfl rfl ?_);(refine zIx fun Q_ hQ_=>?_;simp (disch:=first|omega|(simp only [List.length_cons,List.length_nil,List.length_append];omega)) only [bb,bp,zLx,↓reduceIte,reduceCtorEq,Nat.reduceEqDiff,Nat.reduceLT,Nat.reduceLeDiff,Nat.reduceAdd,Nat.reduceMul,Nat.reduceSub,Nat.reduceBEq,Int.reduceToNat,cond_true,cond_false,eq_self,beq_self_eq_true,hl,zFw wf,zHx wf,zBv wf,zFx wf,zAy wf,zAx,tEvZ12,zIy,zIz,zHv,zHw,zAv wf];first|(refine zCw (Q:=Q_) (fun hp_=>?_) (fun hp_=>?_) <;> first|(exfalso;omega)|(refine hQ_ _ _ ?_;clear hQ_ Q_))|(refine zBw (Q:=Q_) (fun hp_=>?_) (fun hp_=>?_) <;> first|(exfalso;omega)|(refine hQ_ _ _ ?_;clear hQ_ Q_))|(refine hQ_ _ _ ?_;clear hQ_ Q_)|(refine zKv (c1 _ _ (by first|omega|(simp only [List.length_append,List.length_cons,List.length_nil];omega))) ?_;refine hQ_ _ _ ?_;clear hQ_ Q_)|(refine zKv (c2 _ _ (by first|omega|(simp only [List.length_append,List.length_cons,List.length_nil];omega))) ?_;refine hQ_ _ _ ?_;clear hQ_ Q_)))
  | (refine zHz fun K_ hK_=>?_;simp (disch:=omega) only [zFv,zAz,zHy,↓reduceIte,reduceCtorEq,Nat.reduceEqDiff,Nat.reduceLT];refine hK_ _ ?_;clear hK_ K_)))
      all_goals (refine zJv _ _ rfl (ret1 (by decide)) ?_;simp only [zAz,↓reduceIte,reduceCtorEq,Nat.reduceEqDiff];refine zLz rfl (by omega) ?_)
      all_goals exact ⟨rfl,rfl⟩
    · (repeat' (first
  | (with_reducible first|refine zJx ?_|refine zGw ?_|refine zFz ?_|refine zEv ?_|refine zFy ?_|refine zJw ?_|refine zGv ?_|refine zCz ?_|refine zDw ?_|refine zCy ?_|refine zCv ?_|refine zEx ?_|refine zDz ?_|refine zCx ?_|refine zBx ?_|refine zEz ?_|refine zEy ?_|refine zAw ?_|refine zBy ?_)
  | refine zDy ?_|refine zEw rfl ?_|refine zIv ?_|refine zJy ?_
  | ((first|refine zGx rfl rfl rfl rfl rfl fun K_ hK_=>?_|refine zGy rfl rfl rfl rfl rfl fun K_ hK_=>?_);simp only [zAz,zDx,zGz,↓reduceIte,reduceCtorEq,Nat.reduceEqDiff,Bool.not_true,Bool.not_false];refine hK_ _ ?_;clear hK_ K_)
  | refine zDv (by decide) ?_
  | ((try first|refine zKy rfl rfl rfl ?_|refine zIw rfl rfl ?_|refine zKx rfl rfl rfl ?_|refine zJz rfl rfl ?_);(refine zIx fun Q_ hQ_=>?_;simp (disch:=first|omega|(simp only [List.length_cons,List.length_nil,List.length_append];omega)) only [bb,bp,zLx,↓reduceIte,reduceCtorEq,Nat.reduceEqDiff,Nat.reduceLT,Nat.reduceLeDiff,Nat.reduceAdd,Nat.reduceMul,Nat.reduceSub,Nat.reduceBEq,Int.reduceToNat,cond_true,cond_false,eq_self,beq_self_eq_true,hl,zFw wf,zHx wf,zBv wf,zFx wf,zAy wf,zAx,tEvZ12,zIy,zIz,zHv,zHw,zAv wf];first|(refine zCw (Q:=Q_) (fun hp_=>?_) (fun hp_=>?_) <;> first|(exfalso;omega)|(refine hQ_ _ _ ?_;clear hQ_ Q_))|(refine zBw (Q:=Q_) (fun hp_=>?_) (fun hp_=>?_) <;> first|(exfalso;omega)|(refine hQ_ _ _ ?_;clear hQ_ Q_))|(refine hQ_ _ _ ?_;clear hQ_ Q_)|(refine zKv (c1 _ _ (by first|omega|(simp only [List.length_append,List.length_cons,List.length_nil];omega))) ?_;refine hQ_ _ _ ?_;clear hQ_ Q_)|(refine zKv (c2 _ _ (by first|omega|(simp only [List.length_append,List.length_cons,List.length_nil];omega))) ?_;refine hQ_ _ _ ?_;clear hQ_ Q_)))
  | (refine zHz fun K_ hK_=>?_;simp (disch:=omega) only [zFv,zAz,zHy,↓reduceIte,reduceCtorEq,Nat.reduceEqDiff,Nat.reduceLT];refine hK_ _ ?_;clear hK_ K_)))
      all_goals (refine zJv _ _ rfl (ret1 (by decide)) ?_;simp only [zAz,↓reduceIte,reduceCtorEq,Nat.reduceEqDiff];refine zLz rfl (by omega) ?_)
      all_goals exact ⟨rfl,rfl⟩
  · rw [if_neg he]
    generalize err2 xs ys=e at *
    refine zPv (zLw (fn:=Try.f22) Try.func22 rfl rfl rfl rfl rfl ?_)
    simp only [zLx]
    (repeat' (first
  | (with_reducible first|refine zJx ?_|refine zGw ?_|refine zFz ?_|refine zEv ?_|refine zFy ?_|refine zJw ?_|refine zGv ?_|refine zCz ?_|refine zDw ?_|refine zCy ?_|refine zCv ?_|refine zEx ?_|refine zDz ?_|refine zCx ?_|refine zBx ?_|refine zEz ?_|refine zEy ?_|refine zAw ?_|refine zBy ?_)
  | refine zDy ?_|refine zEw rfl ?_|refine zIv ?_|refine zJy ?_
  | ((first|refine zGx rfl rfl rfl rfl rfl fun K_ hK_=>?_|refine zGy rfl rfl rfl rfl rfl fun K_ hK_=>?_);simp only [zAz,zDx,zGz,↓reduceIte,reduceCtorEq,Nat.reduceEqDiff,Bool.not_true,Bool.not_false];refine hK_ _ ?_;clear hK_ K_)
  | refine zDv (by decide) ?_
  | ((try first|refine zKy rfl rfl rfl ?_|refine zIw rfl rfl ?_|refine zKx rfl rfl rfl ?_|refine zJz rfl rfl ?_);(refine zIx fun Q_ hQ_=>?_;simp (disch:=first|omega|(simp only [List.length_cons,List.length_nil,List.length_append];omega)) only [bb,bp,zLx,↓reduceIte,reduceCtorEq,Nat.reduceEqDiff,Nat.reduceLT,Nat.reduceLeDiff,Nat.reduceAdd,Nat.reduceMul,Nat.reduceSub,Nat.reduceBEq,Int.reduceToNat,cond_true,cond_false,eq_self,beq_self_eq_true,hl,zFw wf,zHx wf,zBv wf,zFx wf,zAy wf,zAx,tEvZ12,zIy,zIz,zHv,zHw,zAv wf];first|(refine zCw (Q:=Q_) (fun hp_=>?_) (fun hp_=>?_) <;> first|(exfalso;omega)|(refine hQ_ _ _ ?_;clear hQ_ Q_))|(refine zBw (Q:=Q_) (fun hp_=>?_) (fun hp_=>?_) <;> first|(exfalso;omega)|(refine hQ_ _ _ ?_;clear hQ_ Q_))|(refine hQ_ _ _ ?_;clear hQ_ Q_)|(refine zKv (c1 _ _ (by first|omega|(simp only [List.length_append,List.length_cons,List.length_nil];omega))) ?_;refine hQ_ _ _ ?_;clear hQ_ Q_)))
  | (refine zHz fun K_ hK_=>?_;simp (disch:=omega) only [zFv,zAz,zHy,↓reduceIte,reduceCtorEq,Nat.reduceEqDiff,Nat.reduceLT];refine hK_ _ ?_;clear hK_ K_)))
    all_goals (refine zJv _ _ rfl (ret1 (by decide)) ?_;simp only [zAz,↓reduceIte,reduceCtorEq,Nat.reduceEqDiff];refine zLz rfl (by omega) ?_)
    all_goals exact ⟨rfl,rfl⟩
end Go.Proofs.Ytmincoafjnnkpaa
end

section
namespace Go.Ev
theorem px_xor (f g:Nat→Bool) : ∀ n,px n (fun j=>f j ^^ g j)=(px n f ^^ px n g)
  | 0=>rfl
  | n+1=>by
    show (px n (fun j=>f j ^^ g j) ^^ (f n ^^ g n))=((px n f ^^ f n) ^^ (px n g ^^ g n))
    rw [px_xor f g n]
    cases px n f <;> cases px n g <;> cases f n <;> cases g n <;> rfl
theorem px_and (c:Bool) (f:Nat→Bool) : ∀ n,px n (fun j=>c && f j)=(c && px n f)
  | 0=>by cases c <;> rfl
  | n+1=>by
    show (px n (fun j=>c && f j) ^^ (c && f n))=(c && (px n f ^^ f n))
    rw [px_and c f n]
    cases c <;> simp
theorem px_swap (g:Nat→Nat→Bool) (m:Nat) : ∀ n,px n (fun j=>px m (g j))=px m (fun k=>px n (fun j=>g j k))
  | 0=>by
    show false=_
    exact (xZz fun _ _=>rfl).symm
  | n+1=>by
    show (px n (fun j=>px m (g j)) ^^ px m (g n))=px m (fun k=>px n (fun j=>g j k) ^^ g n k)
    rw [px_swap g m n,px_xor]
theorem px_one {f:Nat→Bool} {n k:Nat} (hk:k<n) (h : ∀ j,j<n→j≠k→f j=false):px n f=f k:=by
  induction n with
  | zero=>omega
  | succ n ih=>
    show (px n f ^^ f n)=f k
    by_cases e:k=n
    · subst e
      rw [xZz fun i hi=>h i (by omega) (by omega),Bool.false_xor]
    · rw [ih (by omega) fun j hj hne=>h j (by omega) hne,h n (by omega) (by omega),Bool.xor_false]
theorem px_shift (g:Nat) (f:Nat→Bool) : ∀ n,px (g+n) (fun j=>decide (g≤j) && f (j - g))=px n f
  | 0=>by
    rw [Nat.add_zero]
    exact xZz fun i hi=>by simp;omega
  | n+1=>by
    show (px (g+n) (fun j=>decide (g≤j) && f (j - g)) ^^ (decide (g≤g+n) && f (g+n - g)))=(px n f ^^ f n)
    rw [px_shift g f n,Nat.add_sub_cancel_left]
    simp
theorem bit_high {T L j:Nat} (h:T<2 ^ L) (hj:L≤j):T.testBit j=false:=
  Nat.testBit_lt_two_pow (Nat.lt_of_lt_of_le h (Nat.pow_le_pow_right (by decide) hj))
theorem pred_more {T L L':Nat} {s:Nat→Bool} {i:Nat} (hT:T<2 ^ L) (hL:L≤L'):pred T L' s i=pred T L s i:=by
  unfold pred
  exact px_more hL fun j h1 _=>by rw [bit_high hT h1,Bool.false_and]
structure Wrong (T L:Nat) (s:Nat→Bool) (p:Nat):Prop where
  le:L≤p
  makes:Makes T L s p
  bad:s p≠pred T L s p
theorem mass {T L p:Nat} {s:Nat→Bool} (w:Wrong T L s p) {T2 L2:Nat} (h:Makes T2 L2 s (p+1)):p+1≤L+L2:=by
  refine Nat.le_of_not_lt fun hlt=>?_
  refine w.bad ?_
  rw [h p (by omega) (by omega)]
  have e1:pred T2 L2 s p=px L2 (fun k=>T2.testBit k && px L (fun j=>T.testBit j && s (p - 1 - k - 1 - j))):=by
    refine yUx fun k hk=>?_
    rw [w.makes (p - 1 - k) (by omega) (by omega)];rfl
  have e2:pred T L s p=px L (fun j=>T.testBit j && px L2 (fun k=>T2.testBit k && s (p - 1 - j - 1 - k))):=by
    refine yUx fun j hj=>?_
    rw [h (p - 1 - j) (by omega) (by omega)];rfl
  rw [e1,e2]
  have e3:px L2 (fun k=>T2.testBit k && px L (fun j=>T.testBit j && s (p - 1 - k - 1 - j)))=px L2 (fun k=>px L (fun j=>T2.testBit k && (T.testBit j && s (p - 1 - k - 1 - j)))):=yUx fun k _=>(px_and _ _ _).symm
  have e4:px L (fun j=>T.testBit j && px L2 (fun k=>T2.testBit k && s (p - 1 - j - 1 - k)))=px L (fun j=>px L2 (fun k=>T.testBit j && (T2.testBit k && s (p - 1 - j - 1 - k)))):=yUx fun j _=>(px_and _ _ _).symm
  rw [e3,e4,px_swap]
  refine yUx fun j hj=>yUx fun k hk=>?_
  rw [show p - 1 - k - 1 - j=p - 1 - j - 1 - k by omega]
  cases T2.testBit k <;> cases T.testBit j <;> simp
def mend (T g T2:Nat):Nat:=T ^^^ ((1 <<< (g - 1)) % 2 ^ 128) ^^^ ((T2 <<< g) % 2 ^ 128)
theorem one_bit (g j:Nat):(1 <<< g).testBit j=decide (j=g):=by
  rw [Nat.shiftLeft_eq,Nat.one_mul,Nat.testBit_two_pow]
  simp only [decide_eq_decide]
  omega
theorem mend_bit {T g T2 j:Nat} (hg:1≤g) (hj:j<128):(mend T g T2).testBit j=((T.testBit j ^^ decide (j=g - 1)) ^^ (decide (g≤j) && T2.testBit (j - g))):=by
  unfold mend
  rw [Nat.testBit_xor,Nat.testBit_xor,Nat.testBit_mod_two_pow,Nat.testBit_mod_two_pow,one_bit,Nat.testBit_shiftLeft]
  simp [hj]
theorem mend_lt {T L g T2 L2:Nat} (hT:T<2 ^ L) (hT2:T2<2 ^ L2) (hg:1≤g):mend T g T2<2 ^ max L (L2+g):=by
  have h1:T<2 ^ max L (L2+g):=Nat.lt_of_lt_of_le hT (Nat.pow_le_pow_right (by decide) (Nat.le_max_left _ _))
  have h2:(1 <<< (g - 1)) % 2 ^ 128<2 ^ max L (L2+g):=by
    refine Nat.lt_of_le_of_lt (Nat.mod_le _ _) ?_
    rw [Nat.shiftLeft_eq,Nat.one_mul]
    exact Nat.pow_lt_pow_right (by decide) (by omega)
  have h3:(T2 <<< g) % 2 ^ 128<2 ^ max L (L2+g):=by
    refine Nat.lt_of_le_of_lt (Nat.mod_le _ _) ?_
    rw [Nat.shiftLeft_eq]
    have:T2 * 2 ^ g<2 ^ L2 * 2 ^ g:=Nat.mul_lt_mul_of_pos_right hT2 (Nat.two_pow_pos g)
    rw [← Nat.pow_add] at this
    exact Nat.lt_of_lt_of_le this (Nat.pow_le_pow_right (by decide) (by omega))
  exact Nat.xor_lt_two_pow (Nat.xor_lt_two_pow h1 h2) h3
theorem mended {T L p T2 L2 q:Nat} {s:Nat→Bool} (hT:T<2 ^ L) (w:Wrong T L s p) (hT2:T2<2 ^ L2) (w2:Wrong T2 L2 s q) (hqp:q<p) (hp:max L (L2+(p - q))≤128):Makes (mend T (p - q) T2) (max L (L2+(p - q))) s (p+1):=by
  intro i h1 h2
  generalize hg:p - q=g at *
  generalize hL:max L (L2+g)=L' at *
  have hgi:1≤g∧g≤i:=by omega
  have e:pred (mend T g T2) L' s i=((pred T L s i ^^ s (i - g)) ^^ pred T2 L2 s (i - g)):=by
    have e1:pred (mend T g T2) L' s i=px L' (fun j=>((T.testBit j && s (i - 1 - j)) ^^ (decide (j=g - 1) && s (i - 1 - j))) ^^ (decide (g≤j) && (T2.testBit (j - g) && s (i - g - 1 - (j - g))))):=by
      refine yUx fun j hj=>?_
      rw [mend_bit hgi.1 (by omega)]
      by_cases hgj:g≤j
      · rw [show i - g - 1 - (j - g)=i - 1 - j by omega]
        cases T.testBit j <;> cases decide (j=g - 1) <;> cases decide (g≤j) <;> cases T2.testBit (j - g) <;> cases s (i - 1 - j) <;> rfl
      · rw [decide_eq_false hgj]
        cases T.testBit j <;> cases decide (j=g - 1) <;> cases s (i - 1 - j) <;> rfl
    rw [e1,px_xor,px_xor]
    congr 1
    · congr 1
      · exact pred_more hT (by omega)
      · rw [px_one (k:=g - 1) (by omega) fun j hj hne=>by simp [hne],decide_eq_true rfl,Bool.true_and,show i - 1 - (g - 1)=i - g by omega]
    · rw [show L'=g+(L' - g) by omega]
      rw [px_shift g (fun k=>T2.testBit k && s (i - g - 1 - k))]
      exact pred_more hT2 (by omega)
  rw [e]
  by_cases hip:i=p
  · subst hip
    have hq:i - g=q:=by omega
    rw [hq]
    have b1:=w.bad
    have b2:=w2.bad
    revert b1 b2
    cases s i <;> cases pred T L s i <;> cases s q <;> cases pred T2 L2 s q <;> simp
  · rw [← w.makes i (by omega) (by omega),← w2.makes (i - g) (by omega) (by omega)]
    cases s i <;> cases s (i - g) <;> rfl
structure Cpx (s:Nat→Bool) (n L:Nat):Prop where
  some : ∃ T,T<2 ^ L∧Makes T L s n
  least : ∀ T' L',Makes T' L' s n→L≤L'
theorem Cpx.unique {s:Nat→Bool} {n L L':Nat} (a:Cpx s n L) (b:Cpx s n L'):L=L':=by
  obtain ⟨T,_,h⟩:=a.some
  obtain ⟨T',_,h'⟩:=b.some
  have:=a.least _ _ h'
  have:=b.least _ _ h
  omega
theorem Makes.less {T L m n:Nat} {s:Nat→Bool} (h:Makes T L s n) (hm:m≤n):Makes T L s m:=fun i h1 h2=>h i h1 (by omega)
end Go.Ev
end

section
namespace Go.Ev
def natOf (L:Nat) (f:Nat→Bool):Nat:=bN ((List.range L).map f)
structure Att where
  (T L:Nat) (at_:Int)
def Att.bound (a:Att):Int:=a.at_+1 - (a.L:Int)
def best1 (m:Att):List Att→Att
  | []=>m
  | x :: l=>best1 (if m.bound<x.bound then x else m) l
def bestA :List Att→Att
  | []=>⟨0,0,0⟩
  | m :: l=>best1 m l
theorem xSv (x:Att) : ∀ (l:List Att) (m:Att),best1 m (l++[x])=if (best1 m l).bound<x.bound then x else best1 m l
  | [],m=>rfl
  | y :: l,m=>by
    show best1 (if m.bound<y.bound then y else m) (l++[x])=_
    rw [xSv x l];rfl
theorem bestA_snoc {l:List Att} (x:Att) (hl:l≠[]):bestA (l++[x])=if (bestA l).bound<x.bound then x else bestA l:=by
  match l,hl with
  | m :: l,_=>exact xSv x l m
def OkBy (s:Nat→Bool) (p:Nat) (a:Att):Prop:=a=⟨0,0,-1⟩∨(a.T<2 ^ a.L ∧ ∃ q:Nat,a.at_=(q:Int)∧q<p∧Wrong a.T a.L s q)
inductive Chain (s:Nat→Bool):List Att→Nat→Nat→Nat→List Nat→Prop
  | nil:Chain s [⟨0,0,-1⟩] 0 0 0 []
  | snoc {l:List Att} {T L p q:Nat} {prof:List Nat} : Chain s l T L p prof→p≤q→Wrong T L s q→q<128 →
      Chain s (l++[⟨T,L,(q:Int)⟩]) (mend T ((q:Int) - (bestA l).at_).toNat (bestA l).T) (max L ((bestA l).L+((q:Int) - (bestA l).at_).toNat)) (q+1) (prof++List.replicate (q+1 - p) L)
structure Facts (s:Nat→Bool) (l:List Att) (T L p:Nat) (prof:List Nat):Prop where
  ne:l≠[]
  lt:T<2 ^ L
  le:L≤p
  p_le:p≤128
  cx:Cpx s p L
  makes:Makes T L s p
  best:(bestA l).bound=(L:Int)
  by_:OkBy s p (bestA l)
  len:prof.length=p
  prof_ : ∀ k,k<p → ∃ Lk:Nat,prof[k]? = some Lk∧Cpx s k Lk
  mono : ∀ (k Lk:Nat),prof[k]? = some Lk→Lk≤L
theorem Chain.facts {s:Nat→Bool} {l:List Att} {T L p:Nat} {prof:List Nat} (h:Chain s l T L p prof):Facts s l T L p prof:=by
  induction h with
  | nil=>exact ⟨by simp,by decide,Nat.le_refl _,by omega,⟨⟨0,by decide,fun i h1 h2=>by omega⟩,fun _ _ _=>Nat.zero_le _⟩,fun i h1 h2=>by omega,rfl,.inl rfl,rfl,fun k hk=>by omega,fun k Lk hk=>by simp at hk⟩
  | @snoc l T L p q prof _ hpq w hq ih=>
    obtain ⟨ne,lt,le,p_le,cx,makes,best,by_,len,prof_,mono⟩:=ih
    have hb:=bestA_snoc ⟨T,L,(q:Int)⟩ ne
    have hbb:(⟨T,L,(q:Int)⟩:Att).bound=(q:Int)+1 - (L:Int):=rfl
    have hbB:(bestA l).bound=(bestA l).at_+1 - ((bestA l).L:Int):=rfl
    generalize hB:bestA l=B at *
    have hlq:=w.le

    have hL':((max L (B.L+((q:Int) - B.at_).toNat):Nat):Int)=max (L:Int) ((q:Int)+1 - (L:Int))∧B.at_<(q:Int)∧0<((q:Int) - B.at_).toNat:=by
      have:B.at_<(q:Int):=by
        rcases by_ with h|⟨_,q',h,h2,_⟩
        · rw [h];show (-1:Int)<_;omega
        · omega
      omega
    obtain ⟨hL',hat,hg⟩:=hL'
    have hL128:max L (B.L+((q:Int) - B.at_).toNat)≤q+1:=by omega
    have hmk:Makes (mend T ((q:Int) - B.at_).toNat B.T) (max L (B.L+((q:Int) - B.at_).toNat)) s (q+1):=by
      rcases by_ with h|⟨hBT,q',h,h2,w2⟩
      · rw [h] at hL' hL128 ⊢
        intro i h1 h2
        have e:((q:Int) - (-1)).toNat=q+1:=by omega
        have:max L (0+((q:Int) - (-1)).toNat)≤i:=h1
        rw [e] at this
        omega
      · have hg2:((q:Int) - B.at_).toNat=q - q':=by omega
        rw [hg2] at hL128 ⊢
        exact mended lt w hBT w2 (by omega) (by omega)
    have hBlt:B.T<2 ^ B.L:=by
      rcases by_ with h|⟨hBT,_⟩
      · rw [h];decide
      · exact hBT
    have hlt:=mend_lt (T:=T) (L:=L) (T2:=B.T) (L2:=B.L) lt hBlt (g:=((q:Int) - B.at_).toNat) (by omega)
    have hleast : ∀ T' L',Makes T' L' s (q+1)→max L (B.L+((q:Int) - B.at_).toNat)≤L':=fun T' L' h=>by
      have h1:=cx.least T' L' (h.less (by omega))
      have h2:=mass w h
      omega
    refine ⟨by simp,hlt,by omega,by omega,⟨⟨_,hlt,hmk⟩,hleast⟩,hmk,?_,?_,?_,?_,?_⟩
    · rw [hb]
      split <;> omega
    · rw [hb]
      split
      · exact .inr ⟨lt,q,rfl,by omega,w⟩
      · rcases by_ with h|⟨h1,q',h2,h3,h4⟩
        · exact .inl h
        · exact .inr ⟨h1,q',h2,by omega,h4⟩
    · rw [List.length_append,List.length_replicate];omega
    · intro k hk
      by_cases hkp:k<p
      · obtain ⟨Lk,h1,h2⟩:=prof_ k hkp
        exact ⟨Lk,by rw [List.getElem?_append_left (by omega)];exact h1,h2⟩
      · refine ⟨L,by rw [List.getElem?_append_right (by omega),List.getElem?_replicate,if_pos (by omega)],⟨⟨T,lt,w.makes.less (by omega)⟩,fun T' L' h=>cx.least T' L' (h.less (by omega))⟩⟩
    · intro k Lk hk
      by_cases hkp:k<p
      · rw [List.getElem?_append_left (by omega)] at hk
        have:=mono k Lk hk
        omega
      · rw [List.getElem?_append_right (by omega),List.getElem?_replicate] at hk
        split at hk
        · cases hk;omega
        · cases hk
end Go.Ev
end

section
namespace Go.Proofs.Ytmincoafjnnkpaa
open Go.Ev
set_option maxRecDepth 100000
set_option linter.unusedSimpArgs false
set_option linter.unusedVariables false
set_option maxHeartbeats 2000000
theorem tEvZ14 :type_of% (And.intro (And.intro (And.intro (And.intro (And.intro (And.intro (And.intro (@yQv) (@yQw)) (And.intro (@yQx) (@yQy))) (And.intro (And.intro (@yQz) (@yPv)) (And.intro (@ia_2) (And.intro (@ia_3) (@ia_4))))) (And.intro (And.intro (And.intro (@ia_5) (@yPw)) (And.intro (@yPx) (@yPy))) (And.intro (And.intro (@yPz) (@yOv)) (And.intro (@yOw) (And.intro (@zSz) (@yOx)))))) (And.intro (And.intro (And.intro (And.intro (@yOy) (@yOz)) (And.intro (@yNv) (@yNw))) (And.intro (And.intro (@yNx) (@yNy)) (And.intro (@yNz) (And.intro (@yMv) (@sz_2))))) (And.intro (And.intro (And.intro (@sz_3) (@sz_4)) (And.intro (@sz_5) (And.intro (@zYv) (@zYw)))) (And.intro (And.intro (@zYx) (@zYy)) (And.intro (@zYz) (And.intro (@zXv) (@zRx))))))) (And.intro (And.intro (And.intro (And.intro (And.intro (@zXw) (@zXx)) (And.intro (@zXy) (@zQy))) (And.intro (And.intro (@zXz) (@zWv)) (And.intro (@zWw) (And.intro (@zWx) (@zWy))))) (And.intro (And.intro (And.intro (@ze_2) (@ze_3)) (And.intro (@ze_4) (And.intro (@ze_5) (@zWz)))) (And.intro (And.intro (@zVv) (@zVw)) (And.intro (@zVx) (And.intro (@zVy) (@zVz)))))) (And.intro (And.intro (And.intro (And.intro (@zUv) (@zUw)) (And.intro (@zUx) (@zUy))) (And.intro (And.intro (@zUz) (@zTv)) (And.intro (@zTw) (And.intro (@zTx) (@zTy))))) (And.intro (And.intro (And.intro (@zNv) (@zNw)) (And.intro (@zNx) (And.intro (@zNy) (@zNz)))) (And.intro (And.intro (@zMv) (@zMw)) (And.intro (@zMx) (And.intro (@zMy) (@yMy)))))))) (And.intro (And.intro (And.intro (And.intro (And.intro (And.intro (@yMz) (@yLv)) (And.intro (@yLw) (@yLx))) (And.intro (And.intro (@yLy) (@yLz)) (And.intro (@yKv) (And.intro (@yKw) (@yKx))))) (And.intro (And.intro (And.intro (@yKy) (@yKz)) (And.intro (@yJv) (@yJw))) (And.intro (And.intro (@yJx) (@yJy)) (And.intro (@yJz) (And.intro (@yIv) (@yIw)))))) (And.intro (And.intro (And.intro (And.intro (@yIx) (@yIy)) (And.intro (@yIz) (@yHv))) (And.intro (And.intro (@yHw) (@yHx)) (And.intro (@yHy) (And.intro (@yHz) (@yGv))))) (And.intro (And.intro (And.intro (@yGw) (@yGx)) (And.intro (@yGy) (And.intro (@yGz) (@yFv)))) (And.intro (And.intro (@yFw) (@yFx)) (And.intro (@yFy) (And.intro (@yFz) (@yEv))))))) (And.intro (And.intro (And.intro (And.intro (And.intro (@yEw) (@yEx)) (And.intro (@yEy) (@yEz))) (And.intro (And.intro (@yDv) (@yDw)) (And.intro (@yDx) (And.intro (@yDy) (@yDz))))) (And.intro (And.intro (And.intro (@yCv) (@yCw)) (And.intro (@yCx) (And.intro (@yCy) (@yCz)))) (And.intro (And.intro (@zSx) (@yBv)) (And.intro (@yBw) (And.intro (@yBx) (@yBy)))))) (And.intro (And.intro (And.intro (And.intro (@yBz) (@yAv)) (And.intro (@yAw) (@yAx))) (And.intro (And.intro (@yAy) (@yAz)) (And.intro (@zZv) (And.intro (@zZw) (@zZx))))) (And.intro (And.intro (And.intro (@zZy) (@zZz)) (And.intro (@zQz) (And.intro (@yMw) (@zTz)))) (And.intro (And.intro (@zQv) (@zSv)) (And.intro (@zSw) (And.intro (@yMx) (@zRv))))))))):=And.intro (And.intro (And.intro (And.intro (And.intro (And.intro (And.intro (@yQv) (@yQw)) (And.intro (@yQx) (@yQy))) (And.intro (And.intro (@yQz) (@yPv)) (And.intro (@ia_2) (And.intro (@ia_3) (@ia_4))))) (And.intro (And.intro (And.intro (@ia_5) (@yPw)) (And.intro (@yPx) (@yPy))) (And.intro (And.intro (@yPz) (@yOv)) (And.intro (@yOw) (And.intro (@zSz) (@yOx)))))) (And.intro (And.intro (And.intro (And.intro (@yOy) (@yOz)) (And.intro (@yNv) (@yNw))) (And.intro (And.intro (@yNx) (@yNy)) (And.intro (@yNz) (And.intro (@yMv) (@sz_2))))) (And.intro (And.intro (And.intro (@sz_3) (@sz_4)) (And.intro (@sz_5) (And.intro (@zYv) (@zYw)))) (And.intro (And.intro (@zYx) (@zYy)) (And.intro (@zYz) (And.intro (@zXv) (@zRx))))))) (And.intro (And.intro (And.intro (And.intro (And.intro (@zXw) (@zXx)) (And.intro (@zXy) (@zQy))) (And.intro (And.intro (@zXz) (@zWv)) (And.intro (@zWw) (And.intro (@zWx) (@zWy))))) (And.intro (And.intro (And.intro (@ze_2) (@ze_3)) (And.intro (@ze_4) (And.intro (@ze_5) (@zWz)))) (And.intro (And.intro (@zVv) (@zVw)) (And.intro (@zVx) (And.intro (@zVy) (@zVz)))))) (And.intro (And.intro (And.intro (And.intro (@zUv) (@zUw)) (And.intro (@zUx) (@zUy))) (And.intro (And.intro (@zUz) (@zTv)) (And.intro (@zTw) (And.intro (@zTx) (@zTy))))) (And.intro (And.intro (And.intro (@zNv) (@zNw)) (And.intro (@zNx) (And.intro (@zNy) (@zNz)))) (And.intro (And.intro (@zMv) (@zMw)) (And.intro (@zMx) (And.intro (@zMy) (@yMy)))))))) (And.intro (And.intro (And.intro (And.intro (And.intro (And.intro (@yMz) (@yLv)) (And.intro (@yLw) (@yLx))) (And.intro (And.intro (@yLy) (@yLz)) (And.intro (@yKv) (And.intro (@yKw) (@yKx))))) (And.intro (And.intro (And.intro (@yKy) (@yKz)) (And.intro (@yJv) (@yJw))) (And.intro (And.intro (@yJx) (@yJy)) (And.intro (@yJz) (And.intro (@yIv) (@yIw)))))) (And.intro (And.intro (And.intro (And.intro (@yIx) (@yIy)) (And.intro (@yIz) (@yHv))) (And.intro (And.intro (@yHw) (@yHx)) (And.intro (@yHy) (And.intro (@yHz) (@yGv))))) (And.intro (And.intro (And.intro (@yGw) (@yGx)) (And.intro (@yGy) (And.intro (@yGz) (@yFv)))) (And.intro (And.intro (@yFw) (@yFx)) (And.intro (@yFy) (And.intro (@yFz) (@yEv))))))) (And.intro (And.intro (And.intro (And.intro (And.intro (@yEw) (@yEx)) (And.intro (@yEy) (@yEz))) (And.intro (And.intro (@yDv) (@yDw)) (And.intro (@yDx) (And.intro (@yDy) (@yDz))))) (And.intro (And.intro (And.intro (@yCv) (@yCw)) (And.intro (@yCx) (And.intro (@yCy) (@yCz)))) (And.intro (And.intro (@zSx) (@yBv)) (And.intro (@yBw) (And.intro (@yBx) (@yBy)))))) (And.intro (And.intro (And.intro (And.intro (@yBz) (@yAv)) (And.intro (@yAw) (@yAx))) (And.intro (And.intro (@yAy) (@yAz)) (And.intro (@zZv) (And.intro (@zZw) (@zZx))))) (And.intro (And.intro (And.intro (@zZy) (@zZz)) (And.intro (@zQz) (And.intro (@yMw) (@zTz)))) (And.intro (And.intro (@zQv) (@zSv)) (And.intro (@zSw) (And.intro (@yMx) (@zRv))))))))
def attC (a:Att):List AV:=[uu (a.T % 2 ^ 64),uu (a.T >>> 64),ii (a.L:Int),ii a.at_]
theorem yZx (a:Att):(attC a).length=4:=rfl
theorem xZy {α : Type} {f : α → List AV} {m:Nat} (hf : ∀ a,(f a).length=m) : ∀ l:List α,(l.flatMap f).length=l.length * m
  | []=>by simp
  | a :: l=>by rw [List.flatMap_cons,List.length_append,hf,xZy hf l,List.length_cons,Nat.succ_mul];omega
theorem flat_at {α : Type} {f : α → List AV} {m:Nat} (hf : ∀ a,(f a).length=m) : ∀ {l:List α} {i:Nat} (hi:i<l.length),((l.flatMap f).drop (i * m)).take m=f l[i]
  | [],_,hi=>absurd hi (Nat.not_lt_zero _)
  | a :: l,0,_=>by
    rw [Nat.zero_mul,List.drop_zero,List.flatMap_cons,List.take_append_of_le_length (by rw [hf];exact Nat.le_refl _),List.take_of_length_le (by rw [hf];exact Nat.le_refl _)];rfl
  | a :: l,i+1,hi=>by
    rw [List.flatMap_cons,show (i+1) * m=m+i * m by rw [Nat.succ_mul];omega,← List.drop_drop,List.drop_left' (hf a)]
    exact flat_at hf (by simpa using hi)
theorem bound (a:Att) (h:H) (wf:Wf h) (hat : -1≤a.at_∧a.at_≤128) (hL:a.L≤128):(om Try.prog KK).call (.fn 52 [.agg (attC a)]) h = .ok (ii a.bound) h:=by
  unfold attC
  refine zPv (zLw (fn:=Try.f52) Try.func52 rfl rfl rfl rfl rfl ?_)
  simp only [zLx]
  (repeat' (first
  | (with_reducible first|refine zJx ?_|refine zGw ?_|refine zFz ?_|refine zEv ?_|refine zFy ?_|refine zJw ?_|refine zGv ?_|refine zCz ?_|refine zDw ?_|refine zCy ?_|refine zCv ?_|refine zEx ?_|refine zDz ?_|refine zCx ?_|refine zBx ?_|refine zEz ?_|refine zEy ?_|refine zAw ?_|refine zBy ?_)
  | refine zDy ?_|refine zEw rfl ?_|refine zIv ?_|refine zJy ?_
  | ((first|refine zGx rfl rfl rfl rfl rfl fun K_ hK_=>?_|refine zGy rfl rfl rfl rfl rfl fun K_ hK_=>?_);simp only [zAz,zDx,zGz,↓reduceIte,reduceCtorEq,Nat.reduceEqDiff,Bool.not_true,Bool.not_false];refine hK_ _ ?_;clear hK_ K_)
  | refine zDv (by decide) ?_
  | ((try first|refine zKy rfl rfl rfl ?_|refine zIw rfl rfl ?_|refine zKx rfl rfl rfl ?_|refine zJz rfl rfl ?_);(refine zIx fun Q_ hQ_=>?_;simp (disch:=first|omega|(simp only [List.length_cons,List.length_nil,List.length_append];omega)) only [bb,bp,zLx,↓reduceIte,reduceCtorEq,Nat.reduceEqDiff,Nat.reduceLT,Nat.reduceLeDiff,Nat.reduceAdd,Nat.reduceMul,Nat.reduceSub,Nat.reduceBEq,Int.reduceToNat,cond_true,cond_false,eq_self,beq_self_eq_true,zFw wf,zHx wf,zBv wf,zFx wf,zAy wf,zAx,tEvZ14,zIy,zIz,zHv,zHw,zAv wf];first|(refine zCw (Q:=Q_) (fun hp_=>?_) (fun hp_=>?_) <;> first|(exfalso;omega)|(refine hQ_ _ _ ?_;clear hQ_ Q_))|(refine zBw (Q:=Q_) (fun hp_=>?_) (fun hp_=>?_) <;> first|(exfalso;omega)|(refine hQ_ _ _ ?_;clear hQ_ Q_))|(refine hQ_ _ _ ?_;clear hQ_ Q_)))
  | (refine zHz fun K_ hK_=>?_;simp (disch:=omega) only [zFv,zAz,zHy,↓reduceIte,reduceCtorEq,Nat.reduceEqDiff,Nat.reduceLT];refine hK_ _ ?_;clear hK_ K_)))
  (refine zJv _ _ rfl (ret1 (by decide)) ?_;simp only [zAz,↓reduceIte,reduceCtorEq,Nat.reduceEqDiff];refine zLz rfl (by omega) ?_)
  exact ⟨rfl,rfl⟩
theorem strong1 (a:Att) (h:H) (wf:Wf h) (hat : -1≤a.at_∧a.at_≤128) (hL:a.L≤128):(om Try.prog KK).call (.fn 74 [.agg (attC a)]) h = .ok (ii a.bound) h:=by
  have c1 : ∀ (l:List AO) (w:Nat),w≤h.clock+l.length→(om Try.prog KK).call (.fn 52 [.agg [uu (a.T % 2 ^ 64),uu (a.T >>> 64),ii (a.L:Int),ii a.at_]]) (X h l w) = .ok (ii a.bound) (X h l w):=fun l w hw=>bound a _ (wf.X hw) hat hL
  unfold attC
  refine zPv (zLw (fn:=Try.f74) Try.func74 rfl rfl rfl rfl rfl ?_)
  simp only [zLx]
  (repeat' (first
  | (with_reducible first|refine zJx ?_|refine zGw ?_|refine zFz ?_|refine zEv ?_|refine zFy ?_|refine zJw ?_|refine zGv ?_|refine zCz ?_|refine zDw ?_|refine zCy ?_|refine zCv ?_|refine zEx ?_|refine zDz ?_|refine zCx ?_|refine zBx ?_|refine zEz ?_|refine zEy ?_|refine zAw ?_|refine zBy ?_)
  | refine zDy ?_|refine zEw rfl ?_|refine zIv ?_|refine zJy ?_
  | ((first|refine zGx rfl rfl rfl rfl rfl fun K_ hK_=>?_|refine zGy rfl rfl rfl rfl rfl fun K_ hK_=>?_);simp only [zAz,zDx,zGz,↓reduceIte,reduceCtorEq,Nat.reduceEqDiff,Bool.not_true,Bool.not_false];refine hK_ _ ?_;clear hK_ K_)
  | refine zDv (by decide) ?_
  | ((try first|refine zKy rfl rfl rfl ?_|refine zIw rfl rfl ?_|refine zKx rfl rfl rfl ?_|refine zJz rfl rfl ?_);(refine zIx fun Q_ hQ_=>?_;simp (disch:=first|omega|(simp only [List.length_cons,List.length_nil,List.length_append];omega)) only [bb,bp,zLx,↓reduceIte,reduceCtorEq,Nat.reduceEqDiff,Nat.reduceLT,Nat.reduceLeDiff,Nat.reduceAdd,Nat.reduceMul,Nat.reduceSub,Nat.reduceBEq,Int.reduceToNat,cond_true,cond_false,eq_self,beq_self_eq_true,zFw wf,zHx wf,zBv wf,zFx wf,zAy wf,zAx,tEvZ14,zIy,zIz,zHv,zHw,zAv wf];first|(refine zCw (Q:=Q_) (fun hp_=>?_) (fun hp_=>?_) <;> first|(exfalso;omega)|(refine hQ_ _ _ ?_;clear hQ_ Q_))|(refine zBw (Q:=Q_) (fun hp_=>?_) (fun hp_=>?_) <;> first|(exfalso;omega)|(refine hQ_ _ _ ?_;clear hQ_ Q_))|(refine hQ_ _ _ ?_;clear hQ_ Q_)|(refine zKv (c1 _ _ (by first|omega|(simp only [List.length_append,List.length_cons,List.length_nil];omega))) ?_;refine hQ_ _ _ ?_;clear hQ_ Q_)))
  | (refine zHz fun K_ hK_=>?_;simp (disch:=omega) only [zFv,zAz,zHy,↓reduceIte,reduceCtorEq,Nat.reduceEqDiff,Nat.reduceLT];refine hK_ _ ?_;clear hK_ K_)))
  (refine zJv _ _ rfl (ret1 (by decide)) ?_;simp only [zAz,↓reduceIte,reduceCtorEq,Nat.reduceEqDiff];refine zLz rfl (by omega) ?_)
  exact ⟨rfl,rfl⟩
theorem mendC (a b:Att) (g:Nat) (hg:a.at_ - b.at_=(g:Int)) (hg1:1≤g∧g≤128) (ha:a.T<2 ^ 128) (hb:b.T<2 ^ 128) (hL:a.L≤128∧b.L≤128) (h:H) (wf:Wf h) :
    (om Try.prog KK).call (.fn 71 [.agg (attC a),.agg (attC b)]) h = .ok (.agg (rg (mend a.T g b.T) (max a.L (b.L+g)))) h:=by
  have hg0:(g:Int) - 1=((g - 1:Nat):Int):=by omega
  have hbg:(b.L:Int)+(g:Int)=((b.L+g:Nat):Int):=by omega
  have hmx:max (a.L:Int) ((b.L+g:Nat):Int)=((max a.L (b.L+g):Nat):Int):=by omega
  have c1 : ∀ (l:List AO) (w:Nat),w≤h.clock+l.length→(om Try.prog KK).call (.fn 79 [.agg [.int .u64 1,.int .u64 0],.int .i64 ((g - 1:Nat):Int)]) (X h l w) = .ok (.agg (wd ((1 <<< (g - 1)) % 2 ^ 128))) (X h l w):=fun l w hw=>up 1 (g - 1) (by omega) _ (wf.X hw)
  have c2 : ∀ (l:List AO) (w:Nat),w≤h.clock+l.length→(om Try.prog KK).call (.fn 79 [.agg [uu (b.T % 2 ^ 64),uu (b.T >>> 64)],.int .i64 (g:Int)]) (X h l w) = .ok (.agg (wd ((b.T <<< g) % 2 ^ 128))) (X h l w):=fun l w hw=>up b.T g (by omega) _ (wf.X hw)
  have hU1:(1 <<< (g - 1)) % 2 ^ 128<2 ^ 128:=Nat.mod_lt _ (by decide)
  have hU2:(b.T <<< g) % 2 ^ 128<2 ^ 128:=Nat.mod_lt _ (by decide)
  unfold mend
  generalize (1 <<< (g - 1)) % 2 ^ 128=U1 at *
  generalize (b.T <<< g) % 2 ^ 128=U2 at *
  have c3 : ∀ (o1 o2 o3 o4:AO) w,w≤h.clock+5→(om Try.prog KK).call (.fn 65 [.sl (nx h 4) 0 3 (some 3) 2]) (X h [o1,o2,o3,o4,.cells (zBz [uu (a.T % 2 ^ 64),uu (a.T >>> 64),uu (U1 % 2 ^ 64),uu (U1 >>> 64),uu (U2 % 2 ^ 64),uu (U2 >>> 64)]) 57] w) = .ok (.agg (wd (a.T ^^^ U1 ^^^ U2))) (X h [o1,o2,o3,o4,.cells (zBz [uu (a.T % 2 ^ 64),uu (a.T >>> 64),uu (U1 % 2 ^ 64),uu (U1 >>> 64),uu (U2 % 2 ^ 64),uu (U2 >>> 64)]) 57] w):=fun o1 o2 o3 o4 w hw=>by
    have:=sum [a.T,U1,U2] (by intro N hN;simp at hN;rcases hN with rfl|rfl|rfl <;> assumption) (by simp) (.sl (nx h 4) 0 3 (some 3) 2) _ (wf.X (l:=[o1,o2,o3,o4,.cells (zBz [uu (a.T % 2 ^ 64),uu (a.T >>> 64),uu (U1 % 2 ^ 64),uu (U1 >>> 64),uu (U2 % 2 ^ 64),uu (U2 >>> 64)]) 57]) hw) (Sl.new (k:=4) wf rfl rfl)
    rw [xall3] at this
    exact this
  generalize a.T ^^^ U1 ^^^ U2=R at *
  unfold wd at c1 c2 c3
  unfold attC rg
  refine zPv (zLw (fn:=Try.f71) Try.func71 rfl rfl rfl rfl rfl ?_)
  simp only [zLx]
  (repeat' (first
  | (with_reducible first|refine zJx ?_|refine zGw ?_|refine zFz ?_|refine zEv ?_|refine zFy ?_|refine zJw ?_|refine zGv ?_|refine zCz ?_|refine zDw ?_|refine zCy ?_|refine zCv ?_|refine zEx ?_|refine zDz ?_|refine zCx ?_|refine zBx ?_|refine zEz ?_|refine zEy ?_|refine zAw ?_|refine zBy ?_)
  | refine zDy ?_|refine zEw rfl ?_|refine zIv ?_|refine zJy ?_
  | ((first|refine zGx rfl rfl rfl rfl rfl fun K_ hK_=>?_|refine zGy rfl rfl rfl rfl rfl fun K_ hK_=>?_);simp only [zAz,zDx,zGz,↓reduceIte,reduceCtorEq,Nat.reduceEqDiff,Bool.not_true,Bool.not_false];refine hK_ _ ?_;clear hK_ K_)
  | refine zDv (by decide) ?_
  | ((try first|refine zKy rfl rfl rfl ?_|refine zIw rfl rfl ?_|refine zKx rfl rfl rfl ?_|refine zJz rfl rfl ?_);(refine zIx fun Q_ hQ_=>?_;simp (disch:=first|omega|(simp only [List.length_cons,List.length_nil,List.length_append];omega)) only [bb,bp,zLx,↓reduceIte,reduceCtorEq,Nat.reduceEqDiff,Nat.reduceLT,Nat.reduceLeDiff,Nat.reduceAdd,Nat.reduceMul,Nat.reduceSub,Nat.reduceBEq,Int.reduceToNat,cond_true,cond_false,eq_self,beq_self_eq_true,hg,zFw wf,zHx wf,zBv wf,zFx wf,zAy wf,zAx,tEvZ14,zIy,zIz,zHv,zHw,zAv wf];first|(refine zCw (Q:=Q_) (fun hp_=>?_) (fun hp_=>?_) <;> first|(exfalso;omega)|(refine hQ_ _ _ ?_;clear hQ_ Q_))|(refine zBw (Q:=Q_) (fun hp_=>?_) (fun hp_=>?_) <;> first|(exfalso;omega)|(refine hQ_ _ _ ?_;clear hQ_ Q_))|(refine hQ_ _ _ ?_;clear hQ_ Q_)))
  | (refine zHz fun K_ hK_=>?_;simp (disch:=omega) only [zFv,zAz,zHy,↓reduceIte,reduceCtorEq,Nat.reduceEqDiff,Nat.reduceLT];refine hK_ _ ?_;clear hK_ K_)))
  refine zOz (List.replicate 23 .no++[.full,.full]) (by kernel_rfl) ?_
  (repeat' (first
  | (with_reducible first|refine zJx ?_|refine zGw ?_|refine zFz ?_|refine zEv ?_|refine zFy ?_|refine zJw ?_|refine zGv ?_|refine zCz ?_|refine zDw ?_|refine zCy ?_|refine zCv ?_|refine zEx ?_|refine zDz ?_|refine zCx ?_|refine zBx ?_|refine zEz ?_|refine zEy ?_|refine zAw ?_|refine zBy ?_)
  | refine zDy ?_|refine zEw rfl ?_|refine zIv ?_|refine zJy ?_
  | ((first|refine zGx rfl rfl rfl rfl rfl fun K_ hK_=>?_|refine zGy rfl rfl rfl rfl rfl fun K_ hK_=>?_);simp only [zAz,zDx,zGz,↓reduceIte,reduceCtorEq,Nat.reduceEqDiff,Bool.not_true,Bool.not_false];refine hK_ _ ?_;clear hK_ K_)
  | refine zDv (by decide) ?_
  | ((try first|refine zKy rfl rfl rfl ?_|refine zIw rfl rfl ?_|refine zKx rfl rfl rfl ?_|refine zJz rfl rfl ?_);(refine zIx fun Q_ hQ_=>?_;simp (disch:=first|omega|(simp only [List.length_cons,List.length_nil,List.length_append];omega)) only [bb,bp,zLx,↓reduceIte,reduceCtorEq,Nat.reduceEqDiff,Nat.reduceLT,Nat.reduceLeDiff,Nat.reduceAdd,Nat.reduceMul,Nat.reduceSub,Nat.reduceBEq,Int.reduceToNat,cond_true,cond_false,eq_self,beq_self_eq_true,hg0,hbg,hmx,c1,c2,c3,zFw wf,zHx wf,zBv wf,zFx wf,zAy wf,zAx,tEvZ14,zIy,zIz,zHv,zHw,zAv wf];first|(refine zCw (Q:=Q_) (fun hp_=>?_) (fun hp_=>?_) <;> first|(exfalso;omega)|(refine hQ_ _ _ ?_;clear hQ_ Q_))|(refine zBw (Q:=Q_) (fun hp_=>?_) (fun hp_=>?_) <;> first|(exfalso;omega)|(refine hQ_ _ _ ?_;clear hQ_ Q_))|(refine hQ_ _ _ ?_;clear hQ_ Q_)))
  | (refine zHz fun K_ hK_=>?_;simp (disch:=omega) only [zFv,zAz,zHy,↓reduceIte,reduceCtorEq,Nat.reduceEqDiff,Nat.reduceLT];refine hK_ _ ?_;clear hK_ K_)))
  refine zJv _ _ rfl (retc0 (by decide) (by simp (disch:=first|omega|(simp only [List.length_cons,List.length_nil,List.length_append];omega)) only [bb,bp,zLx,↓reduceIte,reduceCtorEq,Nat.reduceEqDiff,Nat.reduceLT,Nat.reduceLeDiff,Nat.reduceAdd,Nat.reduceMul,Nat.reduceSub,Nat.reduceBEq,Int.reduceToNat,cond_true,cond_false,eq_self,beq_self_eq_true,zBv wf,tEvZ14,zIy,zIz,zHv,zHw,zAv wf];rfl)) ?_
  refine zLz rfl (by omega) ?_
  exact ⟨rfl,rfl⟩
end Go.Proofs.Ytmincoafjnnkpaa
end

section
namespace Go.Proofs.Ytmincoafjnnkpaa
open Go.Ev
set_option maxRecDepth 100000
set_option linter.unusedSimpArgs false
set_option linter.unusedVariables false
set_option maxHeartbeats 2000000
theorem tEvZ15 :type_of% (And.intro (And.intro (And.intro (And.intro (And.intro (And.intro (And.intro (@yQv) (@yQw)) (And.intro (@yQx) (@yQy))) (And.intro (And.intro (@yQz) (@yPv)) (And.intro (@ia_2) (And.intro (@ia_3) (@ia_4))))) (And.intro (And.intro (And.intro (@ia_5) (@yPw)) (And.intro (@yPx) (@yPy))) (And.intro (And.intro (@yPz) (@yOv)) (And.intro (@yOw) (And.intro (@zSz) (@yOx)))))) (And.intro (And.intro (And.intro (And.intro (@yOy) (@yOz)) (And.intro (@yNv) (@yNw))) (And.intro (And.intro (@yNx) (@yNy)) (And.intro (@yNz) (And.intro (@yMv) (@sz_2))))) (And.intro (And.intro (And.intro (@sz_3) (@sz_4)) (And.intro (@sz_5) (And.intro (@zYv) (@zYw)))) (And.intro (And.intro (@zYx) (@zYy)) (And.intro (@zYz) (And.intro (@zXv) (@zRx))))))) (And.intro (And.intro (And.intro (And.intro (And.intro (@zXw) (@zXx)) (And.intro (@zXy) (@zQy))) (And.intro (And.intro (@zXz) (@zWv)) (And.intro (@zWw) (And.intro (@zWx) (@zWy))))) (And.intro (And.intro (And.intro (@ze_2) (@ze_3)) (And.intro (@ze_4) (And.intro (@ze_5) (@zWz)))) (And.intro (And.intro (@zVv) (@zVw)) (And.intro (@zVx) (And.intro (@zVy) (@zVz)))))) (And.intro (And.intro (And.intro (And.intro (@zUv) (@zUw)) (And.intro (@zUx) (@zUy))) (And.intro (And.intro (@zUz) (@zTv)) (And.intro (@zTw) (And.intro (@zTx) (@zTy))))) (And.intro (And.intro (And.intro (@zNv) (@zNw)) (And.intro (@zNx) (And.intro (@zNy) (@zNz)))) (And.intro (And.intro (@zMv) (@zMw)) (And.intro (@zMx) (And.intro (@zMy) (@yMy)))))))) (And.intro (And.intro (And.intro (And.intro (And.intro (And.intro (@yMz) (@yLv)) (And.intro (@yLw) (@yLx))) (And.intro (And.intro (@yLy) (@yLz)) (And.intro (@yKv) (And.intro (@yKw) (@yKx))))) (And.intro (And.intro (And.intro (@yKy) (@yKz)) (And.intro (@yJv) (@yJw))) (And.intro (And.intro (@yJx) (@yJy)) (And.intro (@yJz) (And.intro (@yIv) (@yIw)))))) (And.intro (And.intro (And.intro (And.intro (@yIx) (@yIy)) (And.intro (@yIz) (@yHv))) (And.intro (And.intro (@yHw) (@yHx)) (And.intro (@yHy) (And.intro (@yHz) (@yGv))))) (And.intro (And.intro (And.intro (@yGw) (@yGx)) (And.intro (@yGy) (And.intro (@yGz) (@yFv)))) (And.intro (And.intro (@yFw) (@yFx)) (And.intro (@yFy) (And.intro (@yFz) (@yEv))))))) (And.intro (And.intro (And.intro (And.intro (And.intro (@yEw) (@yEx)) (And.intro (@yEy) (@yEz))) (And.intro (And.intro (@yDv) (@yDw)) (And.intro (@yDx) (And.intro (@yDy) (@yDz))))) (And.intro (And.intro (And.intro (@yCv) (@yCw)) (And.intro (@yCx) (And.intro (@yCy) (@yCz)))) (And.intro (And.intro (@zSx) (@yBv)) (And.intro (@yBw) (And.intro (@yBx) (@yBy)))))) (And.intro (And.intro (And.intro (And.intro (@yBz) (@yAv)) (And.intro (@yAw) (@yAx))) (And.intro (And.intro (@yAy) (@yAz)) (And.intro (@zZv) (And.intro (@zZw) (@zZx))))) (And.intro (And.intro (And.intro (@zZy) (@zZz)) (And.intro (@zQz) (And.intro (@yMw) (@zTz)))) (And.intro (And.intro (@zQv) (@zSv)) (And.intro (@zSw) (And.intro (@yMx) (@zRv))))))))):=And.intro (And.intro (And.intro (And.intro (And.intro (And.intro (And.intro (@yQv) (@yQw)) (And.intro (@yQx) (@yQy))) (And.intro (And.intro (@yQz) (@yPv)) (And.intro (@ia_2) (And.intro (@ia_3) (@ia_4))))) (And.intro (And.intro (And.intro (@ia_5) (@yPw)) (And.intro (@yPx) (@yPy))) (And.intro (And.intro (@yPz) (@yOv)) (And.intro (@yOw) (And.intro (@zSz) (@yOx)))))) (And.intro (And.intro (And.intro (And.intro (@yOy) (@yOz)) (And.intro (@yNv) (@yNw))) (And.intro (And.intro (@yNx) (@yNy)) (And.intro (@yNz) (And.intro (@yMv) (@sz_2))))) (And.intro (And.intro (And.intro (@sz_3) (@sz_4)) (And.intro (@sz_5) (And.intro (@zYv) (@zYw)))) (And.intro (And.intro (@zYx) (@zYy)) (And.intro (@zYz) (And.intro (@zXv) (@zRx))))))) (And.intro (And.intro (And.intro (And.intro (And.intro (@zXw) (@zXx)) (And.intro (@zXy) (@zQy))) (And.intro (And.intro (@zXz) (@zWv)) (And.intro (@zWw) (And.intro (@zWx) (@zWy))))) (And.intro (And.intro (And.intro (@ze_2) (@ze_3)) (And.intro (@ze_4) (And.intro (@ze_5) (@zWz)))) (And.intro (And.intro (@zVv) (@zVw)) (And.intro (@zVx) (And.intro (@zVy) (@zVz)))))) (And.intro (And.intro (And.intro (And.intro (@zUv) (@zUw)) (And.intro (@zUx) (@zUy))) (And.intro (And.intro (@zUz) (@zTv)) (And.intro (@zTw) (And.intro (@zTx) (@zTy))))) (And.intro (And.intro (And.intro (@zNv) (@zNw)) (And.intro (@zNx) (And.intro (@zNy) (@zNz)))) (And.intro (And.intro (@zMv) (@zMw)) (And.intro (@zMx) (And.intro (@zMy) (@yMy)))))))) (And.intro (And.intro (And.intro (And.intro (And.intro (And.intro (@yMz) (@yLv)) (And.intro (@yLw) (@yLx))) (And.intro (And.intro (@yLy) (@yLz)) (And.intro (@yKv) (And.intro (@yKw) (@yKx))))) (And.intro (And.intro (And.intro (@yKy) (@yKz)) (And.intro (@yJv) (@yJw))) (And.intro (And.intro (@yJx) (@yJy)) (And.intro (@yJz) (And.intro (@yIv) (@yIw)))))) (And.intro (And.intro (And.intro (And.intro (@yIx) (@yIy)) (And.intro (@yIz) (@yHv))) (And.intro (And.intro (@yHw) (@yHx)) (And.intro (@yHy) (And.intro (@yHz) (@yGv))))) (And.intro (And.intro (And.intro (@yGw) (@yGx)) (And.intro (@yGy) (And.intro (@yGz) (@yFv)))) (And.intro (And.intro (@yFw) (@yFx)) (And.intro (@yFy) (And.intro (@yFz) (@yEv))))))) (And.intro (And.intro (And.intro (And.intro (And.intro (@yEw) (@yEx)) (And.intro (@yEy) (@yEz))) (And.intro (And.intro (@yDv) (@yDw)) (And.intro (@yDx) (And.intro (@yDy) (@yDz))))) (And.intro (And.intro (And.intro (@yCv) (@yCw)) (And.intro (@yCx) (And.intro (@yCy) (@yCz)))) (And.intro (And.intro (@zSx) (@yBv)) (And.intro (@yBw) (And.intro (@yBx) (@yBy)))))) (And.intro (And.intro (And.intro (And.intro (@yBz) (@yAv)) (And.intro (@yAw) (@yAx))) (And.intro (And.intro (@yAy) (@yAz)) (And.intro (@zZv) (And.intro (@zZw) (@zZx))))) (And.intro (And.intro (And.intro (@zZy) (@zZz)) (And.intro (@zQz) (And.intro (@yMw) (@zTz)))) (And.intro (And.intro (@zQv) (@zSv)) (And.intro (@zSw) (And.intro (@yMx) (@zRv))))))))
def OkA (a:Att):Prop:=(-1≤a.at_∧a.at_≤128)∧a.L≤128
theorem best1_mem : ∀ (l:List Att) (m:Att),best1 m l=m∨best1 m l ∈ l
  | [],m=>.inl rfl
  | x :: l,m=>by
    show best1 (if m.bound<x.bound then x else m) l=m∨_
    rcases best1_mem l (if m.bound<x.bound then x else m) with h|h
    · rw [h]
      split
      · exact .inr (by rw [show best1 m (x :: l)=best1 (if m.bound<x.bound then x else m) l from rfl,h,if_pos (by assumption)];simp)
      · exact .inl rfl
    · exact .inr (List.mem_cons_of_mem _ h)
theorem bestA_mem {l:List Att} (h:l≠[]):bestA l ∈ l:=by
  match l,h with
  | m :: l,_=>
    rcases best1_mem l m with h|h
    · show best1 m l ∈ _
      rw [h];simp
    · exact List.mem_cons_of_mem _ h
theorem bestC (m:Att) (l:List Att) (hn:l.length≤1000) (hok : ∀ x ∈ m :: l,OkA x) (a:AV) (hc:CapU 4 a) (h:H) (wf:Wf h) (hs:Sl h a 4 (m :: l).length ((m :: l).flatMap attC)) :
    (om Try.prog KK).call (.fn 73 [a,.fn 74 [] []]) h = .ok (.agg (attC (bestA (m :: l)))) h:=by
  obtain ⟨f1,f2⟩:=zPz hs
  obtain ⟨b,hcut,hsb,hcb⟩:=hs.cutFrom (P:=Try.prog) (k:=1) (by simp) un_63 zQy (by omega) hc
  have hsb:Sl h b 4 l.length (l.flatMap attC):=by
    have e1:(m :: l).length - 1=l.length:=by simp
    have e2:((m :: l).flatMap attC).drop (1 * 4)=l.flatMap attC:=by rw [List.flatMap_cons];exact List.drop_left' rfl
    rw [e1,e2] at hsb
    exact hsb
  obtain ⟨f3,f4⟩:=zPz hsb
  have hlb : ∀ h',lenE Try.prog 63 b h'=some (ii (l.length:Int)):=fun h'=>hsb.len un_63
  obtain ⟨id,off,hix,hld⟩:=hs.at wf (i:=0) (by simp) zQv
  have hix:indexAddrE Try.prog 63 a (.int .i64 0)=some (.ptr id off):=hix
  have hld : ∀ l w,loadAgg id off (some 4) (X h l w)=some (.agg [uu (m.T % 2 ^ 64),uu (m.T >>> 64),ii (m.L:Int),ii m.at_]):=fun l w=>(hld l w).2
  have cst : ∀ x ∈ m :: l,∀ (J:List AO) (w:Nat),w≤h.clock+J.length→(om Try.prog KK).call (.fn 74 [.agg [uu (x.T % 2 ^ 64),uu (x.T >>> 64),ii (x.L:Int),ii x.at_]]) (X h J w) = .ok (ii x.bound) (X h J w):=fun x hx J w hw=>strong1 x _ (wf.X hw) (hok x hx).1 (hok x hx).2
  refine zPv (zLw (fn:=Try.f73) Try.func73 rfl rfl rfl rfl rfl ?_)
  simp only [zLx]
  (repeat' (first
  | (with_reducible first|refine zJx ?_|refine zGw ?_|refine zFz ?_|refine zEv ?_|refine zFy ?_|refine zJw ?_|refine zGv ?_|refine zCz ?_|refine zDw ?_|refine zCy ?_|refine zCv ?_|refine zEx ?_|refine zDz ?_|refine zCx ?_|refine zBx ?_|refine zEz ?_|refine zEy ?_|refine zAw ?_|refine zBy ?_)
  | refine zDy ?_|refine zEw rfl ?_|refine zIv ?_|refine zJy ?_
  | ((first|refine zGx rfl rfl rfl rfl rfl fun K_ hK_=>?_|refine zGy rfl rfl rfl rfl rfl fun K_ hK_=>?_);simp only [zAz,zDx,zGz,↓reduceIte,reduceCtorEq,Nat.reduceEqDiff,Bool.not_true,Bool.not_false];refine hK_ _ ?_;clear hK_ K_)
  | refine zDv (by decide) ?_
  | ((try first|refine zKy rfl rfl rfl ?_|refine zIw rfl rfl ?_|refine zKx rfl rfl rfl ?_|refine zJz rfl rfl ?_);(refine zIx fun Q_ hQ_=>?_;simp (disch:=first|omega|(simp only [List.length_cons,List.length_nil,List.length_append];omega)) only [bb,bp,zLx,↓reduceIte,reduceCtorEq,Nat.reduceEqDiff,Nat.reduceLT,Nat.reduceLeDiff,Nat.reduceAdd,Nat.reduceMul,Nat.reduceSub,Nat.reduceBEq,Int.reduceToNat,cond_true,cond_false,eq_self,beq_self_eq_true,f1,f2,f3,f4,hix,hld,hcut,hlb,zFw wf,zHx wf,zBv wf,zFx wf,zAy wf,zAx,tEvZ15,zIy,zIz,zHv,zHw,zAv wf];first|(refine zCw (Q:=Q_) (fun hp_=>?_) (fun hp_=>?_) <;> first|(exfalso;omega)|(refine hQ_ _ _ ?_;clear hQ_ Q_))|(refine zBw (Q:=Q_) (fun hp_=>?_) (fun hp_=>?_) <;> first|(exfalso;omega)|(refine hQ_ _ _ ?_;clear hQ_ Q_))|(refine hQ_ _ _ ?_;clear hQ_ Q_)))
  | (refine zHz fun K_ hK_=>?_;simp (disch:=omega) only [zFv,zAz,zHy,↓reduceIte,reduceCtorEq,Nat.reduceEqDiff,Nat.reduceLT];refine hK_ _ ?_;clear hK_ K_)))
  refine zQw (α:=Nat) (fun (i:Nat) f d h'=>i≤l.length∧f 1 = .fn 74 [] []∧f 4 = .ptr (nx h 0) 0∧f 5 = .ptr (nx h 1) 0∧f 12=b∧f 13=ii (l.length:Int)∧f 14=ii (i:Int)∧d=[] ∧
    ∃ G w,h.clock≤w∧w≤h.clock+2+G.length∧h'=X h (.cells (zBz [.int .u64 0,.int .u64 0,.int .i64 0,.int .i64 0]) 67 :: .cells (zBz (attC (best1 m (l.take i)))) 67 :: G) w) (fun i=>l.length - i) ?_ (l.length+1) 0 (by omega) ?_
  · rintro i f d h' ⟨hi,g1,g4,g5,g12,g13,g14,rfl,G,w,hw,hw2,rfl⟩
    by_cases hlt:i<l.length
    · obtain ⟨id2,off2,hix2,hld2⟩:=hsb.at wf hlt zQv
      have hld2 : ∀ J w,loadAgg id2 off2 (some 4) (X h J w)=some (.agg [uu (l[i].T % 2 ^ 64),uu (l[i].T >>> 64),ii (l[i].L:Int),ii l[i].at_]):=fun J w=>by rw [(hld2 J w).2,flat_at yZx hlt];rfl
      have e1:best1 m (l.take (i+1))=if (best1 m (l.take i)).bound<l[i].bound then l[i] else best1 m (l.take i):=by rw [List.take_succ_eq_append_getElem hlt,xSv]
      have hmem:best1 m (l.take i) ∈ m :: l:=by
        rcases best1_mem (l.take i) m with h|h
        · rw [h];simp
        · exact List.mem_cons_of_mem _ (List.mem_of_mem_take h)
      have c1:=cst _ hmem
      have c2:=cst l[i] (List.mem_cons_of_mem _ (List.getElem_mem hlt))
      generalize hB:best1 m (l.take i)=B at *
      generalize hxe:l[i]=x at *
      unfold attC
      have lx : ∀ (c1 c2:AO) w,loadAgg (nx h (G.length+1+1)) 0 (some 4) (X h (c1 :: c2 :: (G++[.cells (zBz [uu (x.T % 2 ^ 64),uu (x.T >>> 64),ii (x.L:Int),ii x.at_]) 67])) w)=some (.agg [uu (x.T % 2 ^ 64),uu (x.T >>> 64),ii (x.L:Int),ii x.at_]):=fun c1 c2 w=>by
        rw [zBv wf,show c1 :: c2 :: (G++[.cells (zBz [uu (x.T % 2 ^ 64),uu (x.T >>> 64),ii (x.L:Int),ii x.at_]) 67])=[c1,c2]++G++[.cells (zBz [uu (x.T % 2 ^ 64),uu (x.T >>> 64),ii (x.L:Int),ii x.at_]) 67] from rfl,show G.length+1+1=([c1,c2]++G).length by simp,xFy,List.getElem?_cons_zero,yVy (by decide)]
        rfl
      (repeat' (first
  | (with_reducible first|refine zJx ?_|refine zGw ?_|refine zFz ?_|refine zEv ?_|refine zFy ?_|refine zJw ?_|refine zGv ?_|refine zCz ?_|refine zDw ?_|refine zCy ?_|refine zCv ?_|refine zEx ?_|refine zDz ?_|refine zCx ?_|refine zBx ?_|refine zEz ?_|refine zEy ?_|refine zAw ?_|refine zBy ?_)
  | refine zDy ?_|refine zEw rfl ?_|refine zIv ?_|refine zJy ?_
  | ((first|refine zGx rfl rfl rfl rfl rfl fun K_ hK_=>?_|refine zGy rfl rfl rfl rfl rfl fun K_ hK_=>?_);simp only [zAz,zDx,zGz,↓reduceIte,reduceCtorEq,Nat.reduceEqDiff,Bool.not_true,Bool.not_false];refine hK_ _ ?_;clear hK_ K_)
  | refine zDv (by decide) ?_
  | ((try first|refine zKy rfl rfl rfl ?_|refine zIw rfl rfl ?_|refine zKx rfl rfl rfl ?_|refine zJz rfl rfl ?_);(refine zIx fun Q_ hQ_=>?_;simp (disch:=first|omega|(simp only [List.length_cons,List.length_nil,List.length_append];omega)) only [bb,bp,zLx,↓reduceIte,reduceCtorEq,Nat.reduceEqDiff,Nat.reduceLT,Nat.reduceLeDiff,Nat.reduceAdd,Nat.reduceMul,Nat.reduceSub,Nat.reduceBEq,Int.reduceToNat,cond_true,cond_false,eq_self,beq_self_eq_true,f1,f2,f3,f4,g1,g4,g5,g12,g13,g14,hix2,hld2,hlb,zFw wf,zHx wf,zBv wf,zFx wf,zAy wf,zAx,tEvZ15,zIy,zIz,zHv,zHw,zAv wf];first|(refine zCw (Q:=Q_) (fun hp_=>?_) (fun hp_=>?_) <;> first|(exfalso;omega)|(refine hQ_ _ _ ?_;clear hQ_ Q_))|(refine zBw (Q:=Q_) (fun hp_=>?_) (fun hp_=>?_) <;> first|(exfalso;omega)|(refine hQ_ _ _ ?_;clear hQ_ Q_))|(refine hQ_ _ _ ?_;clear hQ_ Q_)))
  | (refine zHz fun K_ hK_=>?_;simp (disch:=omega) only [zFv,zAz,zHy,↓reduceIte,reduceCtorEq,Nat.reduceEqDiff,Nat.reduceLT];refine hK_ _ ?_;clear hK_ K_)))
      refine zOz [.no,.no,.no,.no,.no,.full,.full] (by kernel_rfl) ?_
      (repeat' (first
  | (with_reducible first|refine zJx ?_|refine zGw ?_|refine zFz ?_|refine zEv ?_|refine zFy ?_|refine zJw ?_|refine zGv ?_|refine zCz ?_|refine zDw ?_|refine zCy ?_|refine zCv ?_|refine zEx ?_|refine zDz ?_|refine zCx ?_|refine zBx ?_|refine zEz ?_|refine zEy ?_|refine zAw ?_|refine zBy ?_)
  | refine zDy ?_|refine zEw rfl ?_|refine zIv ?_|refine zJy ?_
  | ((first|refine zGx rfl rfl rfl rfl rfl fun K_ hK_=>?_|refine zGy rfl rfl rfl rfl rfl fun K_ hK_=>?_);simp only [zAz,zDx,zGz,↓reduceIte,reduceCtorEq,Nat.reduceEqDiff,Bool.not_true,Bool.not_false];refine hK_ _ ?_;clear hK_ K_)
  | refine zDv (by decide) ?_
  | ((try first|refine zKy rfl rfl rfl ?_|refine zIw rfl rfl ?_|refine zKx rfl rfl rfl ?_|refine zJz rfl rfl ?_);(refine zIx fun Q_ hQ_=>?_;simp (disch:=first|omega|(simp only [List.length_cons,List.length_nil,List.length_append];omega)) only [bb,bp,zLx,↓reduceIte,reduceCtorEq,Nat.reduceEqDiff,Nat.reduceLT,Nat.reduceLeDiff,Nat.reduceAdd,Nat.reduceMul,Nat.reduceSub,Nat.reduceBEq,Int.reduceToNat,cond_true,cond_false,eq_self,beq_self_eq_true,f1,f2,f3,f4,g1,g4,g5,g12,g13,g14,hix2,hld2,hlb,lx,c1,c2,wAz,zFw wf,zHx wf,zBv wf,zFx wf,zAy wf,tEvZ15,zIy,zIz,zHv,zHw,zAv wf];first|(refine zCw (Q:=Q_) (fun hp_=>?_) (fun hp_=>?_) <;> first|(exfalso;omega)|(refine hQ_ _ _ ?_;clear hQ_ Q_))|(refine zBw (Q:=Q_) (fun hp_=>?_) (fun hp_=>?_) <;> first|(exfalso;omega)|(refine hQ_ _ _ ?_;clear hQ_ Q_))|(refine hQ_ _ _ ?_;clear hQ_ Q_)))
  | (refine zHz fun K_ hK_=>?_;simp (disch:=omega) only [zFv,zAz,zHy,↓reduceIte,reduceCtorEq,Nat.reduceEqDiff,Nat.reduceLT];refine hK_ _ ?_;clear hK_ K_)))
      · have e2:best1 m (l.take (i+1))=x:=by rw [e1,if_pos (by assumption)]
        refine zLy (i+1) (by omega) ⟨hlt,by simp only [zAz,↓reduceIte,reduceCtorEq,Nat.reduceEqDiff];exact g1,by simp only [zAz,↓reduceIte,reduceCtorEq,Nat.reduceEqDiff];exact g4,by simp only [zAz,↓reduceIte,reduceCtorEq,Nat.reduceEqDiff];exact g5,by simp only [zAz,↓reduceIte,reduceCtorEq,Nat.reduceEqDiff];exact g12,by simp only [zAz,↓reduceIte,reduceCtorEq,Nat.reduceEqDiff];exact g13,by simp only [zAz,↓reduceIte,reduceCtorEq,Nat.reduceEqDiff];rfl,rfl,G++[.cells (zBz [uu (x.T % 2 ^ 64),uu (x.T >>> 64),ii (x.L:Int),ii x.at_]) 67],_,?_,?_,by rw [e2]⟩
        · omega
        · simp only [List.length_append,List.length_cons,List.length_nil];omega
      · have e2:best1 m (l.take (i+1))=B:=by rw [e1,if_neg (by assumption)]
        refine zLy (i+1) (by omega) ⟨hlt,by simp only [zAz,↓reduceIte,reduceCtorEq,Nat.reduceEqDiff];exact g1,by simp only [zAz,↓reduceIte,reduceCtorEq,Nat.reduceEqDiff];exact g4,by simp only [zAz,↓reduceIte,reduceCtorEq,Nat.reduceEqDiff];exact g5,by simp only [zAz,↓reduceIte,reduceCtorEq,Nat.reduceEqDiff];exact g12,by simp only [zAz,↓reduceIte,reduceCtorEq,Nat.reduceEqDiff];exact g13,by simp only [zAz,↓reduceIte,reduceCtorEq,Nat.reduceEqDiff];rfl,rfl,G++[.cells (zBz [uu (x.T % 2 ^ 64),uu (x.T >>> 64),ii (x.L:Int),ii x.at_]) 67],_,?_,?_,by rw [e2]⟩
        · omega
        · simp only [List.length_append,List.length_cons,List.length_nil];omega
    · have:i=l.length:=by omega
      subst this
      rw [List.take_length,show bestA (m :: l)=best1 m l from rfl]
      unfold attC
      (repeat' (first
  | (with_reducible first|refine zJx ?_|refine zGw ?_|refine zFz ?_|refine zEv ?_|refine zFy ?_|refine zJw ?_|refine zGv ?_|refine zCz ?_|refine zDw ?_|refine zCy ?_|refine zCv ?_|refine zEx ?_|refine zDz ?_|refine zCx ?_|refine zBx ?_|refine zEz ?_|refine zEy ?_|refine zAw ?_|refine zBy ?_)
  | refine zDy ?_|refine zEw rfl ?_|refine zIv ?_|refine zJy ?_
  | ((first|refine zGx rfl rfl rfl rfl rfl fun K_ hK_=>?_|refine zGy rfl rfl rfl rfl rfl fun K_ hK_=>?_);simp only [zAz,zDx,zGz,↓reduceIte,reduceCtorEq,Nat.reduceEqDiff,Bool.not_true,Bool.not_false];refine hK_ _ ?_;clear hK_ K_)
  | refine zDv (by decide) ?_
  | ((try first|refine zKy rfl rfl rfl ?_|refine zIw rfl rfl ?_|refine zKx rfl rfl rfl ?_|refine zJz rfl rfl ?_);(refine zIx fun Q_ hQ_=>?_;simp (disch:=first|omega|(simp only [List.length_cons,List.length_nil,List.length_append];omega)) only [bb,bp,zLx,↓reduceIte,reduceCtorEq,Nat.reduceEqDiff,Nat.reduceLT,Nat.reduceLeDiff,Nat.reduceAdd,Nat.reduceMul,Nat.reduceSub,Nat.reduceBEq,Int.reduceToNat,cond_true,cond_false,eq_self,beq_self_eq_true,f1,f2,f3,f4,g1,g4,g5,g12,g13,g14,hlb,zFw wf,zHx wf,zBv wf,zFx wf,zAy wf,zAx,tEvZ15,zIy,zIz,zHv,zHw,zAv wf];first|(refine zCw (Q:=Q_) (fun hp_=>?_) (fun hp_=>?_) <;> first|(exfalso;omega)|(refine hQ_ _ _ ?_;clear hQ_ Q_))|(refine zBw (Q:=Q_) (fun hp_=>?_) (fun hp_=>?_) <;> first|(exfalso;omega)|(refine hQ_ _ _ ?_;clear hQ_ Q_))|(refine hQ_ _ _ ?_;clear hQ_ Q_)))
  | (refine zHz fun K_ hK_=>?_;simp (disch:=omega) only [zFv,zAz,zHy,↓reduceIte,reduceCtorEq,Nat.reduceEqDiff,Nat.reduceLT];refine hK_ _ ?_;clear hK_ K_)))
      refine zJv _ _ rfl (retc0 (by decide) (by simp (disch:=first|omega|(simp only [List.length_cons,List.length_nil,List.length_append];omega)) only [bb,bp,zLx,↓reduceIte,reduceCtorEq,Nat.reduceEqDiff,Nat.reduceLT,Nat.reduceLeDiff,Nat.reduceAdd,Nat.reduceMul,Nat.reduceSub,Nat.reduceBEq,Int.reduceToNat,cond_true,cond_false,eq_self,beq_self_eq_true,g4,zBv wf,tEvZ15,zIy,zIz,zHv,zHw,zAv wf];rfl)) ?_
      refine zLz rfl (by omega) ?_
      exact ⟨rfl,rfl⟩
  · exact ⟨by omega,rfl,rfl,rfl,rfl,rfl,rfl,rfl,[],h.clock,by omega,by omega,by rw [List.take_zero];rfl⟩
theorem strongest (l:List Att) (hne:l≠[]) (hn:l.length≤1000) (hok : ∀ x ∈ l,OkA x) (a:AV) (hc:CapU 4 a) (h:H) (wf:Wf h) (hs:Sl h a 4 l.length (l.flatMap attC)) :
    (om Try.prog KK).call (.fn 55 [a]) h = .ok (.agg (attC (bestA l))) h:=by
  obtain ⟨f1,f2⟩:=zPz hs
  have c1 : ∀ (J:List AO) (w:Nat),w≤h.clock+J.length→(om Try.prog KK).call (.fn 73 [a,.fn 74 [] []]) (X h J w) = .ok (.agg [uu ((bestA l).T % 2 ^ 64),uu ((bestA l).T >>> 64),ii ((bestA l).L:Int),ii (bestA l).at_]) (X h J w):=fun J w hw=>by
    match l,hne with
    | m :: l,_=>exact bestC m l (by simp at hn;omega) hok a hc _ (wf.X hw) (hs.up wf J w)
  refine zPv (zLw (fn:=Try.f55) Try.func55 rfl rfl rfl rfl rfl ?_)
  simp only [zLx]
  unfold attC
  (repeat' (first
  | (with_reducible first|refine zJx ?_|refine zGw ?_|refine zFz ?_|refine zEv ?_|refine zFy ?_|refine zJw ?_|refine zGv ?_|refine zCz ?_|refine zDw ?_|refine zCy ?_|refine zCv ?_|refine zEx ?_|refine zDz ?_|refine zCx ?_|refine zBx ?_|refine zEz ?_|refine zEy ?_|refine zAw ?_|refine zBy ?_)
  | refine zDy ?_|refine zEw rfl ?_|refine zIv ?_|refine zJy ?_
  | ((first|refine zGx rfl rfl rfl rfl rfl fun K_ hK_=>?_|refine zGy rfl rfl rfl rfl rfl fun K_ hK_=>?_);simp only [zAz,zDx,zGz,↓reduceIte,reduceCtorEq,Nat.reduceEqDiff,Bool.not_true,Bool.not_false];refine hK_ _ ?_;clear hK_ K_)
  | refine zDv (by decide) ?_
  | ((try first|refine zKy rfl rfl rfl ?_|refine zIw rfl rfl ?_|refine zKx rfl rfl rfl ?_|refine zJz rfl rfl ?_);(refine zIx fun Q_ hQ_=>?_;simp (disch:=first|omega|(simp only [List.length_cons,List.length_nil,List.length_append];omega)) only [bb,bp,zLx,↓reduceIte,reduceCtorEq,Nat.reduceEqDiff,Nat.reduceLT,Nat.reduceLeDiff,Nat.reduceAdd,Nat.reduceMul,Nat.reduceSub,Nat.reduceBEq,Int.reduceToNat,cond_true,cond_false,eq_self,beq_self_eq_true,f1,f2,zFw wf,zHx wf,zBv wf,zFx wf,zAy wf,zAx,tEvZ15,zIy,zIz,zHv,zHw,zAv wf];first|(refine zCw (Q:=Q_) (fun hp_=>?_) (fun hp_=>?_) <;> first|(exfalso;omega)|(refine hQ_ _ _ ?_;clear hQ_ Q_))|(refine zBw (Q:=Q_) (fun hp_=>?_) (fun hp_=>?_) <;> first|(exfalso;omega)|(refine hQ_ _ _ ?_;clear hQ_ Q_))|(refine hQ_ _ _ ?_;clear hQ_ Q_)|(refine zKv (c1 _ _ (by first|omega|(simp only [List.length_append,List.length_cons,List.length_nil];omega))) ?_;refine hQ_ _ _ ?_;clear hQ_ Q_)))
  | (refine zHz fun K_ hK_=>?_;simp (disch:=omega) only [zFv,zAz,zHy,↓reduceIte,reduceCtorEq,Nat.reduceEqDiff,Nat.reduceLT];refine hK_ _ ?_;clear hK_ K_)))
  refine zJv _ _ rfl (retc0 (by decide) (by simp (disch:=first|omega|(simp only [List.length_cons,List.length_nil,List.length_append];omega)) only [bb,bp,zLx,↓reduceIte,reduceCtorEq,Nat.reduceEqDiff,Nat.reduceLT,Nat.reduceLeDiff,Nat.reduceAdd,Nat.reduceMul,Nat.reduceSub,Nat.reduceBEq,Int.reduceToNat,cond_true,cond_false,eq_self,beq_self_eq_true,zBv wf,tEvZ15,zIy,zIz,zHv,zHw,zAv wf];rfl)) ?_
  refine zLz rfl (by omega) ?_
  exact ⟨rfl,rfl⟩
end Go.Proofs.Ytmincoafjnnkpaa
end

section
namespace Go.Ev
section
variable {P:Program}
end
end Go.Ev
end

section
namespace Go.Ev
section
variable {P:Program}
theorem append_full {h0:H} (wf:Wf h0) {t e size bytes k len:Nat} {z x:AV} (hu:P.underlying t=some (.slice e)) (hz:sizeE P e=some size) (E:El P e size bytes z) {n:Nat} {new old:List AV} {l:List AO} {w e':Nat} (hn:len+n≤10000000) (hn0:n≠0) (hb:bytes≤100000)
    (hk:l[k]? = some (.cells (zBz old) e')) (ho:old.length=len * size) (hs:srcCells (X h0 l w) size x=some (n,new)) (hc:new.length=n * size):appendE P t (.sl (nx h0 k) 0 len (some len) size) x (X h0 l w) = .ok (.sl (nx h0 l.length) 0 (len+n) none size) (X h0 (l++[.cells (zBz (old++new)) e]) w):=by
  unfold appendE
  rw [hu];dsimp only;rw [hz];dsimp only;rw [hs];dsimp only
  rw [show Nat.beq n 0=false from by cases hb:Nat.beq n 0 with|false=>rfl|true=>exact absurd (Nat.eq_of_beq_eq_true hb) hn0]
  show appendSome P e size n new (.sl (nx h0 k) 0 len (some len) size) (X h0 l w)=_
  unfold appendSome
  dsimp only
  rw [show Nat.beq size size=true from Nat.beq_refl size]
  dsimp only [cond]
  rw [show Nat.ble (Nat.add len n) len=false from by
    cases hb:Nat.ble (Nat.add len n) len with
    | false=>rfl
    | true=>exact absurd (Nat.le_of_ble_eq_true hb) (by show ¬ len+n≤len;omega)]
  dsimp only [cond]
  rw [show readCells (X h0 l w) (nx h0 k) 0 (len * size)=some old from by
    unfold readCells
    rw [zPx wf,hk]
    show readM _ (len * size) 0=some old
    rw [yYx _ _ _ (by omega),List.drop_zero,List.take_of_length_le (by omega)]]
  dsimp only
  rw [zLv,show Nat.add len n=len+n from rfl]
  exact growE_X wf E hn hb (by rw [List.length_append,ho,hc,Nat.add_mul])
def LineV (h:H) (L:List AO) (e:TypeId) (lv:AV) (cs:List AV):Prop:=∃ idx c,lv = .sl (nx h idx) 0 cs.length c 1∧L[idx]? = some (.cells (zBz cs) e)∧(c=none∨c=some cs.length)
theorem LineV.flat {h:H} {L:List AO} {e:TypeId} {lv:AV} {cs:List AV} (x:LineV h L e lv cs):AV.cells lv=[lv]∧oneB lv=true:=by obtain ⟨_,_,rfl,_⟩:=x;exact ⟨rfl,rfl⟩
theorem LineV.resz {h:H} {L:List AO} {e:TypeId} {lv:AV} {cs:List AV} (x:LineV h L e lv cs) {t:TypeId} (hu:P.underlying t=some (.slice e)) (hz:sizeE P e=some 1):reszT P t lv=lv:=by
  obtain ⟨_,c,rfl,_,hc⟩:=x
  cases c with
  | none=>exact yXy
  | some c=>exact yXz hu hz
theorem LineV.sl {h:H} (wf:Wf h) {L:List AO} {e:TypeId} {lv:AV} {cs:List AV} (x:LineV h L e lv cs) (w:Nat):Sl (X h L w) lv 1 cs.length cs:=by
  obtain ⟨idx,c,rfl,hk,hc⟩:=x
  exact Sl.new wf (by rw [Nat.mul_one]) hk
theorem LineV.app {h:H} (wf:Wf h) {L:List AO} {e bytes:Nat} {z lv v:AV} {cs:List AV} (x:LineV h L e lv cs) {t:TypeId} (hu:P.underlying t=some (.slice e)) (hz:sizeE P e=some 1) (E:El P e 1 bytes z) (hn:cs.length≤1000000) (hb:bytes≤100000) (hv:oneB v=true) (c:Nat) (w:Nat) (hw:h.clock≤w) :
    ∃ lv' L' o w',Chg e L L'∧LineV h (L'++[.cells (zBz [v]) e,o]) e lv' (cs++[v])∧h.clock≤w'∧w'≤w∧appendE P t lv (.sl (nx h L.length) 0 1 (some c) 1) (X h (L++[.cells (zBz [v]) e]) w) = .ok lv' (X h (L'++[.cells (zBz [v]) e,o]) w'):=by
  obtain ⟨idx,c0,rfl,hk,hc⟩:=x
  have hkl:=zOw hk
  have hk':(L++[.cells (zBz [v]) e])[idx]? = some (.cells (zBz cs) e):=by rw [List.getElem?_append_left hkl];exact hk
  have hs:srcCells (X h (L++[.cells (zBz [v]) e]) w) 1 (.sl (nx h L.length) 0 1 (some c) 1)=some (1,[v]):=src_new (e:=e) wf (by rw [xFy];rfl) rfl
  have hlen:(L++[AO.cells (zBz [v]) e]).length=L.length+1:=by rw [List.length_append];rfl
  rcases hc with rfl|rfl
  · refine ⟨_,L.set idx .dead,.cells (zBz (cs++[v])) e,min (h.clock+idx) w,⟨by simp,fun k o hk2 hno=>?_⟩,⟨L.length+1,none,rfl,?_,.inl rfl⟩,?_,?_,?_⟩
    rotate_right 1
    · rw [xFz wf hu hz E (by omega) (by decide) hb hk' (by rw [Nat.mul_one]) hs rfl (by rw [yZv,hv];rfl),hlen,List.set_append_left _ _ hkl,List.append_assoc,List.length_append]
      rfl
    · have hne:idx≠k:=fun e1=>by
        subst e1
        rw [hk] at hk2
        cases hk2
        exact hno _ rfl
      rw [List.getElem?_set_ne hne];exact hk2
    · rw [List.getElem?_append_right (by simp),List.length_set,Nat.add_sub_cancel_left];rfl
    · omega
    · omega
  · refine ⟨_,L,.cells (zBz (cs++[v])) e,w,Chg.rfl' _,⟨L.length+1,none,rfl,?_,.inl rfl⟩,?_,?_,?_⟩
    rotate_right 1
    · rw [append_full wf hu hz E (by omega) (by decide) hb hk' (by rw [Nat.mul_one]) hs rfl,hlen,List.append_assoc,List.length_append]
      rfl
    · rw [List.getElem?_append_right (by omega),Nat.add_sub_cancel_left];rfl
    · exact hw
    · exact Nat.le_refl _
end
end Go.Ev
namespace Go.Ev
theorem LineV.keep {h:H} {L L':List AO} {e:TypeId} {lv:AV} {cs:List AV} (x:LineV h L e lv cs) (k:Keep e L L'):LineV h L' e lv cs:=by
  obtain ⟨idx,c,rfl,hk,hc⟩:=x
  exact ⟨idx,c,rfl,k _ _ hk,hc⟩
end Go.Ev
namespace Go.Ev
theorem LineV.down {h:H} {G M:List AO} {w:Nat} {e:TypeId} {lv:AV} {cs:List AV} (x:LineV (X h G w) M e lv cs):LineV h (G++M) e lv cs:=by
  obtain ⟨idx,c,rfl,hk,hc⟩:=x
  exact ⟨G.length+idx,c,by rw [nx_X],by rw [List.getElem?_append_right (by omega),Nat.add_sub_cancel_left];exact hk,hc⟩
def LV (h:H) (G:List AO) (vs:List AV) (ls:List (List Int)):Prop:=vs.length=ls.length ∧ ∀ (i:Nat) (u:AV) (l:List Int),vs[i]? = some u→ls[i]? = some l→LineV h G 2 u (l.map fun n=>.int .i64 n)
theorem LV.nil (h:H) (G:List AO):LV h G [] []:=⟨rfl,fun i u l h1 _=>by simp at h1⟩
theorem LV.append {h:H} {G:List AO} {vs us:List AV} {ls ms:List (List Int)} (x:LV h G vs ls) (y:LV h G us ms):LV h G (vs++us) (ls++ms):=by
  refine ⟨by rw [List.length_append,List.length_append,x.1,y.1],fun i u l h1 h2=>?_⟩
  rcases Nat.lt_or_ge i vs.length with hi|hi
  · rw [List.getElem?_append_left hi] at h1
    rw [List.getElem?_append_left (by rw [← x.1];exact hi)] at h2
    exact x.2 i u l h1 h2
  · rw [List.getElem?_append_right hi] at h1
    rw [List.getElem?_append_right (by rw [← x.1];exact hi),← x.1] at h2
    exact y.2 _ u l h1 h2
theorem LV.all {h:H} {G:List AO} {vs:List AV} {ls:List (List Int)} (x:LV h G vs ls):allOne vs=true:=by
  have key : ∀ vs:List AV,(∀ u ∈ vs,oneB u=true)→allOne vs=true:=by
    intro vs
    induction vs with
    | nil=>intro _;rfl
    | cons u vs ih=>intro hu;rw [yZv,hu u (by simp),ih fun w hw=>hu w (by simp [hw])];rfl
  refine key vs fun u hu=>?_
  obtain ⟨i,hi⟩:=List.getElem?_of_mem hu
  have hl:=zOw hi
  exact (x.2 i u _ hi (List.getElem?_eq_getElem (by rw [← x.1];exact hl))).flat.2
theorem LV.mono {h:H} {G G':List AO} {vs:List AV} {ls:List (List Int)} (x:LV h G vs ls) (k : ∀ u cs,LineV h G 2 u cs→LineV h G' 2 u cs):LV h G' vs ls:=⟨x.1,fun i u l h1 h2=>k _ _ (x.2 i u l h1 h2)⟩
theorem LineV.more {h:H} {L:List AO} {e:TypeId} {lv:AV} {cs:List AV} (x:LineV h L e lv cs) (M:List AO):LineV h (L++M) e lv cs:=x.keep (Keep.more _ _)
end Go.Ev
namespace Go.Ev
end Go.Ev
end

section
namespace Go.Proofs.Ytmincoafjnnkpaa
open Go.Ev
set_option maxRecDepth 100000
set_option linter.unusedSimpArgs false
set_option linter.unusedVariables false
set_option maxHeartbeats 2000000
theorem tEvZ16 :type_of% (And.intro (And.intro (And.intro (And.intro (And.intro (And.intro (And.intro (@yQv) (@yQw)) (And.intro (@yQx) (@yQy))) (And.intro (And.intro (@yQz) (@yPv)) (And.intro (@ia_2) (And.intro (@ia_3) (@ia_4))))) (And.intro (And.intro (And.intro (@ia_5) (@yPw)) (And.intro (@yPx) (@yPy))) (And.intro (And.intro (@yPz) (@yOv)) (And.intro (@yOw) (And.intro (@zSz) (@yOx)))))) (And.intro (And.intro (And.intro (And.intro (@yOy) (@yOz)) (And.intro (@yNv) (@yNw))) (And.intro (And.intro (@yNx) (@yNy)) (And.intro (@yNz) (And.intro (@yMv) (@sz_2))))) (And.intro (And.intro (And.intro (@sz_3) (@sz_4)) (And.intro (@sz_5) (And.intro (@zYv) (@zYw)))) (And.intro (And.intro (@zYx) (@zYy)) (And.intro (@zYz) (And.intro (@zXv) (@zRx))))))) (And.intro (And.intro (And.intro (And.intro (And.intro (@zXw) (@zXx)) (And.intro (@zXy) (@zQy))) (And.intro (And.intro (@zXz) (@zWv)) (And.intro (@zWw) (And.intro (@zWx) (@zWy))))) (And.intro (And.intro (And.intro (@ze_2) (@ze_3)) (And.intro (@ze_4) (And.intro (@ze_5) (@zWz)))) (And.intro (And.intro (@zVv) (@zVw)) (And.intro (@zVx) (And.intro (@zVy) (@zVz)))))) (And.intro (And.intro (And.intro (And.intro (@zUv) (@zUw)) (And.intro (@zUx) (@zUy))) (And.intro (And.intro (@zUz) (@zTv)) (And.intro (@zTw) (And.intro (@zTx) (@zTy))))) (And.intro (And.intro (And.intro (@zNv) (@zNw)) (And.intro (@zNx) (And.intro (@zNy) (@zNz)))) (And.intro (And.intro (@zMv) (@zMw)) (And.intro (@zMx) (And.intro (@zMy) (@yMy)))))))) (And.intro (And.intro (And.intro (And.intro (And.intro (And.intro (@yMz) (@yLv)) (And.intro (@yLw) (@yLx))) (And.intro (And.intro (@yLy) (@yLz)) (And.intro (@yKv) (And.intro (@yKw) (@yKx))))) (And.intro (And.intro (And.intro (@yKy) (@yKz)) (And.intro (@yJv) (@yJw))) (And.intro (And.intro (@yJx) (@yJy)) (And.intro (@yJz) (And.intro (@yIv) (@yIw)))))) (And.intro (And.intro (And.intro (And.intro (@yIx) (@yIy)) (And.intro (@yIz) (@yHv))) (And.intro (And.intro (@yHw) (@yHx)) (And.intro (@yHy) (And.intro (@yHz) (@yGv))))) (And.intro (And.intro (And.intro (@yGw) (@yGx)) (And.intro (@yGy) (And.intro (@yGz) (@yFv)))) (And.intro (And.intro (@yFw) (@yFx)) (And.intro (@yFy) (And.intro (@yFz) (@yEv))))))) (And.intro (And.intro (And.intro (And.intro (And.intro (@yEw) (@yEx)) (And.intro (@yEy) (@yEz))) (And.intro (And.intro (@yDv) (@yDw)) (And.intro (@yDx) (And.intro (@yDy) (@yDz))))) (And.intro (And.intro (And.intro (@yCv) (@yCw)) (And.intro (@yCx) (And.intro (@yCy) (@yCz)))) (And.intro (And.intro (@zSx) (@yBv)) (And.intro (@yBw) (And.intro (@yBx) (@yBy)))))) (And.intro (And.intro (And.intro (And.intro (@yBz) (@yAv)) (And.intro (@yAw) (@yAx))) (And.intro (And.intro (@yAy) (@yAz)) (And.intro (@zZv) (And.intro (@zZw) (@zZx))))) (And.intro (And.intro (And.intro (@zZy) (@zZz)) (And.intro (@zQz) (And.intro (@yMw) (@zTz)))) (And.intro (And.intro (@zQv) (@zSv)) (And.intro (@zSw) (And.intro (@yMx) (@zRv))))))))):=And.intro (And.intro (And.intro (And.intro (And.intro (And.intro (And.intro (@yQv) (@yQw)) (And.intro (@yQx) (@yQy))) (And.intro (And.intro (@yQz) (@yPv)) (And.intro (@ia_2) (And.intro (@ia_3) (@ia_4))))) (And.intro (And.intro (And.intro (@ia_5) (@yPw)) (And.intro (@yPx) (@yPy))) (And.intro (And.intro (@yPz) (@yOv)) (And.intro (@yOw) (And.intro (@zSz) (@yOx)))))) (And.intro (And.intro (And.intro (And.intro (@yOy) (@yOz)) (And.intro (@yNv) (@yNw))) (And.intro (And.intro (@yNx) (@yNy)) (And.intro (@yNz) (And.intro (@yMv) (@sz_2))))) (And.intro (And.intro (And.intro (@sz_3) (@sz_4)) (And.intro (@sz_5) (And.intro (@zYv) (@zYw)))) (And.intro (And.intro (@zYx) (@zYy)) (And.intro (@zYz) (And.intro (@zXv) (@zRx))))))) (And.intro (And.intro (And.intro (And.intro (And.intro (@zXw) (@zXx)) (And.intro (@zXy) (@zQy))) (And.intro (And.intro (@zXz) (@zWv)) (And.intro (@zWw) (And.intro (@zWx) (@zWy))))) (And.intro (And.intro (And.intro (@ze_2) (@ze_3)) (And.intro (@ze_4) (And.intro (@ze_5) (@zWz)))) (And.intro (And.intro (@zVv) (@zVw)) (And.intro (@zVx) (And.intro (@zVy) (@zVz)))))) (And.intro (And.intro (And.intro (And.intro (@zUv) (@zUw)) (And.intro (@zUx) (@zUy))) (And.intro (And.intro (@zUz) (@zTv)) (And.intro (@zTw) (And.intro (@zTx) (@zTy))))) (And.intro (And.intro (And.intro (@zNv) (@zNw)) (And.intro (@zNx) (And.intro (@zNy) (@zNz)))) (And.intro (And.intro (@zMv) (@zMw)) (And.intro (@zMx) (And.intro (@zMy) (@yMy)))))))) (And.intro (And.intro (And.intro (And.intro (And.intro (And.intro (@yMz) (@yLv)) (And.intro (@yLw) (@yLx))) (And.intro (And.intro (@yLy) (@yLz)) (And.intro (@yKv) (And.intro (@yKw) (@yKx))))) (And.intro (And.intro (And.intro (@yKy) (@yKz)) (And.intro (@yJv) (@yJw))) (And.intro (And.intro (@yJx) (@yJy)) (And.intro (@yJz) (And.intro (@yIv) (@yIw)))))) (And.intro (And.intro (And.intro (And.intro (@yIx) (@yIy)) (And.intro (@yIz) (@yHv))) (And.intro (And.intro (@yHw) (@yHx)) (And.intro (@yHy) (And.intro (@yHz) (@yGv))))) (And.intro (And.intro (And.intro (@yGw) (@yGx)) (And.intro (@yGy) (And.intro (@yGz) (@yFv)))) (And.intro (And.intro (@yFw) (@yFx)) (And.intro (@yFy) (And.intro (@yFz) (@yEv))))))) (And.intro (And.intro (And.intro (And.intro (And.intro (@yEw) (@yEx)) (And.intro (@yEy) (@yEz))) (And.intro (And.intro (@yDv) (@yDw)) (And.intro (@yDx) (And.intro (@yDy) (@yDz))))) (And.intro (And.intro (And.intro (@yCv) (@yCw)) (And.intro (@yCx) (And.intro (@yCy) (@yCz)))) (And.intro (And.intro (@zSx) (@yBv)) (And.intro (@yBw) (And.intro (@yBx) (@yBy)))))) (And.intro (And.intro (And.intro (And.intro (@yBz) (@yAv)) (And.intro (@yAw) (@yAx))) (And.intro (And.intro (@yAy) (@yAz)) (And.intro (@zZv) (And.intro (@zZw) (@zZx))))) (And.intro (And.intro (And.intro (@zZy) (@zZz)) (And.intro (@zQz) (And.intro (@yMw) (@zTz)))) (And.intro (And.intro (@zQv) (@zSv)) (And.intro (@zSw) (And.intro (@yMx) (@zRv))))))))
theorem rettc {P:Program} {h:H} {a t u:Nat} {f:TF} {v:AV} (hu:u<384) (ha:a<384) (hl:loadE P t (f a) h=some v):retE P [.tmp u,.cell a t] (mkM f) h = .ok (.tup [f u,v]) h:=by
  simp only [retE,resultsE,resultE,yYw _ _ ha,yYw _ _ hu,hl]
def AttsAt (h:H) (M:List AO) (idx:Nat) (l:List Att) (v:AV):Prop:=∃ cap,v = .sl (nx h idx) 0 l.length cap 4∧M[idx]? = some (.cells (zBz (l.flatMap attC)) 67)∧(cap=none∨cap=some l.length)
theorem AttsAt.sl {h:H} (wf:Wf h) {M:List AO} {idx:Nat} {l:List Att} {v:AV} (x:AttsAt h M idx l v) (w:Nat):Sl (X h M w) v 4 l.length (l.flatMap attC):=by
  obtain ⟨cap,rfl,hM,_⟩:=x
  exact Sl.new wf (xZy yZx l) hM
theorem AttsAt.capU {h:H} {M:List AO} {idx:Nat} {l:List Att} {v:AV} (x:AttsAt h M idx l v):CapU 4 v:=by
  obtain ⟨cap,rfl,hM,rfl|rfl⟩:=x
  · exact capu_none
  · exact capu_some (Nat.le_refl _)
theorem AttsAt.more {h:H} {M:List AO} {idx:Nat} {l:List Att} {v:AV} (x:AttsAt h M idx l v) (J:List AO):AttsAt h (M++J) idx l v:=by
  obtain ⟨cap,rfl,hM,hc⟩:=x
  exact ⟨cap,rfl,by rw [List.getElem?_append_left (zOw hM)];exact hM,hc⟩
theorem AttsAt.app {h:H} (wf:Wf h) {M:List AO} {idx:Nat} {l:List Att} {v:AV} (x:AttsAt h M idx l v) (a:Att) (hn:l.length≤1000) :
    ∃ v' M',AttsAt h M' (M.length+1) (l++[a]) v'∧M'.length=M.length+2∧(∀ k o,k≠idx→M[k]? = some o→M'[k]? = some o) ∧ ∀ w,∃ w',min (h.clock+idx) w≤w'∧w'≤w ∧
      appendE Try.prog 63 (reszT Try.prog 63 v) (.sl (nx h M.length) 0 1 (some 1) 4) (X h (M++[.cells (zBz (attC a)) 67]) w) = .ok v' (X h M' w'):=by
  obtain ⟨cap,rfl,hM,hc⟩:=x
  have hlt:=zOw hM
  have hM':(M++[AO.cells (zBz (attC a)) 67])[idx]? = some (.cells (zBz (l.flatMap attC)) 67):=by rw [List.getElem?_append_left hlt];exact hM
  have hs : ∀ w,srcCells (X h (M++[.cells (zBz (attC a)) 67]) w) 4 (.sl (nx h M.length) 0 1 (some 1) 4)=some (1,attC a):=fun w=>src_new (e:=67) wf (by rw [xFy];rfl) rfl
  have hlen:(M++[AO.cells (zBz (attC a)) 67]).length=M.length+1:=by rw [List.length_append];rfl
  have hfm:(l++[a]).flatMap attC=l.flatMap attC++attC a:=by rw [List.flatMap_append];simp
  rcases hc with rfl|rfl
  · have happ:=fun w=>xFz (P:=Try.prog) (t:=63) (w:=w) wf un_63 zQy el_67 (n:=1) (by omega) (by decide) (by decide) hM' (xZy yZx l) (hs w) rfl rfl
    simp only [hlen] at happ
    refine ⟨_,_,⟨none,by rw [List.length_append];try rfl,?_,.inl rfl⟩,?_,?_,fun w=>⟨_,Nat.le_refl _,Nat.min_le_right _ _,by rw [yXy];exact happ w⟩⟩
    · rw [hfm];simp
    · simp
    · intro k o hk ho
      have hkl:=zOw ho
      rw [List.getElem?_append_left (by simp;omega),List.getElem?_set_ne (Ne.symm hk),List.getElem?_append_left hkl];exact ho
  · have happ:=fun w=>append_full (P:=Try.prog) (t:=63) (w:=w) wf un_63 zQy el_67 (n:=1) (by omega) (by decide) (by decide) hM' (xZy yZx l) (hs w) rfl
    simp only [hlen] at happ
    refine ⟨_,_,⟨none,by rw [List.length_append];try rfl,?_,.inl rfl⟩,?_,?_,fun w=>⟨w,Nat.min_le_right _ _,Nat.le_refl _,by rw [yXz un_63 zQy];exact happ w⟩⟩
    · rw [hfm];simp
    · simp
    · intro k o hk ho
      have hkl:=zOw ho
      rw [List.append_assoc,List.getElem?_append_left hkl];exact ho
theorem chain_ok {s:Nat→Bool} {l:List Att} {T L p:Nat} {prof:List Nat} (h:Chain s l T L p prof):(∀ x ∈ l,OkA x)∧l.length≤p+1:=by
  induction h with
  | nil=>exact ⟨fun x hx=>by rw [List.mem_singleton.1 hx];exact ⟨by decide,by decide⟩,by simp⟩
  | @snoc l T L p q prof hc hpq w hq ih=>
    have hf:=hc.facts
    refine ⟨fun x hx=>?_,by rw [List.length_append];simp;omega⟩
    rcases List.mem_append.1 hx with h|h
    · exact ih.1 x h
    · rw [List.mem_singleton.1 h]
      have:=hf.le
      have:=hf.p_le
      exact ⟨⟨by show (-1:Int)≤(q:Int);omega,by show (q:Int)≤(128:Int);omega⟩,by show L≤128;omega⟩
theorem seek (bs:List Bool) (hb:bs.length≤128) (a:AV) (hc:CapU 1 a) (h:H) (wf:Wf h) (hs:Sl h a 1 bs.length (bs.map bi)) :
    ∃ l T L p prof v M idx,Chain (sq bs) l T L p prof∧p≤bs.length∧Makes T L (sq bs) bs.length∧AttsAt h M idx l v∧(om Try.prog KK).call (.fn 49 [a]) h = .ok (.tup [v,.agg (rg T L)]) (X h M h.w):=by
  suffices hW:WV ((om Try.prog KK).call (.fn 49 [a]) h) fun r h'=>∃ l T L p prof v M idx,Chain (sq bs) l T L p prof∧p≤bs.length∧Makes T L (sq bs) bs.length∧AttsAt h M idx l v∧r = .tup [v,.agg (rg T L)]∧h'=X h M h.w by
    obtain ⟨r,h',e,l,T,L,p,prof,v,M,idx,h1,h2,h3,h4,rfl,rfl⟩:=hW
    exact ⟨l,T,L,p,prof,v,M,idx,h1,h2,h3,h4,e⟩
  have hl : ∀ h',lenE Try.prog 22 a h'=some (ii (bs.length:Int)):=fun h'=>hs.len yRw
  obtain ⟨f1,f2⟩:=zPz hs
  refine zLw (fn:=Try.f49) Try.func49 rfl rfl rfl rfl rfl ?_
  simp only [zLx]
  (repeat' (first
  | (with_reducible first|refine zJx ?_|refine zGw ?_|refine zFz ?_|refine zEv ?_|refine zFy ?_|refine zJw ?_|refine zGv ?_|refine zCz ?_|refine zDw ?_|refine zCy ?_|refine zCv ?_|refine zEx ?_|refine zDz ?_|refine zCx ?_|refine zBx ?_|refine zEz ?_|refine zEy ?_|refine zAw ?_|refine zBy ?_)
  | refine zDy ?_|refine zEw rfl ?_|refine zIv ?_|refine zJy ?_
  | ((first|refine zGx rfl rfl rfl rfl rfl fun K_ hK_=>?_|refine zGy rfl rfl rfl rfl rfl fun K_ hK_=>?_);simp only [zAz,zDx,zGz,↓reduceIte,reduceCtorEq,Nat.reduceEqDiff,Bool.not_true,Bool.not_false];refine hK_ _ ?_;clear hK_ K_)
  | refine zDv (by decide) ?_
  | ((try first|refine zKy rfl rfl rfl ?_|refine zIw rfl rfl ?_|refine zKx rfl rfl rfl ?_|refine zJz rfl rfl ?_);(refine zIx fun Q_ hQ_=>?_;simp (disch:=first|omega|(simp only [List.length_cons,List.length_nil,List.length_append];omega)) only [bb,bp,zLx,↓reduceIte,reduceCtorEq,Nat.reduceEqDiff,Nat.reduceLT,Nat.reduceLeDiff,Nat.reduceAdd,Nat.reduceMul,Nat.reduceSub,Nat.reduceBEq,Int.reduceToNat,cond_true,cond_false,eq_self,beq_self_eq_true,hl,f1,f2,zFw wf,zHx wf,zBv wf,zFx wf,zAy wf,zAx,tEvZ16,zIy,zIz,zHv,zHw,zAv wf];first|(refine zCw (Q:=Q_) (fun hp_=>?_) (fun hp_=>?_) <;> first|(exfalso;omega)|(refine hQ_ _ _ ?_;clear hQ_ Q_))|(refine zBw (Q:=Q_) (fun hp_=>?_) (fun hp_=>?_) <;> first|(exfalso;omega)|(refine hQ_ _ _ ?_;clear hQ_ Q_))|(refine hQ_ _ _ ?_;clear hQ_ Q_)))
  | (refine zHz fun K_ hK_=>?_;simp (disch:=omega) only [zFv,zAz,zHy,↓reduceIte,reduceCtorEq,Nat.reduceEqDiff,Nat.reduceLT];refine hK_ _ ?_;clear hK_ K_)))
  refine zQw (α:=Nat) (fun (p:Nat) f d h'=>p≤bs.length∧f 0=a∧f 3 = .ptr (nx h 0) 0∧f 5 = .ptr (nx h 2) 0∧d=[] ∧
    ∃ l T L prof v M w idx,f 4=v∧Chain (sq bs) l T L p prof∧AttsAt h M idx l v∧idx≠0∧idx≠2∧M[0]? = some (.cells (zBz [.int .u64 0,.int .u64 0,.int .i64 0]) 59)∧M[2]? = some (.cells (zBz (rg T L)) 59)∧h'=X h M w∧h.clock≤w∧w≤h.clock+M.length) (fun p=>bs.length+1 - p) ?_ (bs.length+2) 0 (by omega) ?_
  · rintro p f d h' ⟨hp,g0,g3,g5,rfl,l,T,L,prof,v,M,w,idx,g4,hch,hat,hi0,hi2,hM0,hM2,rfl,hw,hw2⟩
    have hf:=hch.facts
    obtain ⟨hok,hln⟩:=chain_ok hch
    have hple:=hf.p_le
    have hT:T<2 ^ 128:=Nat.lt_of_lt_of_le hf.lt (Nat.pow_le_pow_right (by decide) (by have:=hf.le;omega))
    have hL:L≤128:=by have:=hf.le;omega
    have get : ∀ {k:Nat} {o:AO},M[k]? = some o → ∀ J,(M++J)[k]? = some o:=fun {k o} hq J=>by rw [List.getElem?_append_left (zOw hq)];exact hq
    have hMl:=zOw hM2
    have s0 : ∀ J o,(M++J).set 0 o=M.set 0 o++J:=fun J o=>List.set_append_left _ _ (by omega)
    have s2 : ∀ J o,(M++J).set 2 o=M.set 2 o++J:=fun J o=>List.set_append_left _ _ (by omega)
    have sM0:M.set 0 (.cells (zBz [uu (T % 2 ^ 64),uu (T >>> 64),ii (L:Int)]) 59)=M.set 0 (.cells (zBz (rg T L)) 59):=rfl
    obtain ⟨v1,h1,e1,r,hr,rfl,rfl⟩:=wrong T L hT hL bs hb a hc _ (wf.X (l:=M) (w:=w) hw2) (hs.up wf M w)
    have hrn:L≤r∧r≤bs.length∧Makes T L (sq bs) r∧(r<bs.length→sq bs r≠pred T L (sq bs) r):=by
      rcases hr with ⟨h1,_⟩|⟨_,h2,h3,h4,h5⟩
      · have:=hf.le;omega
      · exact ⟨h2,h3,h4,h5⟩
    obtain ⟨fv1,fv2⟩:=zPz (hat.sl wf w)
    unfold rg at e1 hM2
    by_cases hrb:r=bs.length
    · rw [hrb] at e1
      (repeat' (first
  | (with_reducible first|refine zJx ?_|refine zGw ?_|refine zFz ?_|refine zEv ?_|refine zFy ?_|refine zJw ?_|refine zGv ?_|refine zCz ?_|refine zDw ?_|refine zCy ?_|refine zCv ?_|refine zEx ?_|refine zDz ?_|refine zCx ?_|refine zBx ?_|refine zEz ?_|refine zEy ?_|refine zAw ?_|refine zBy ?_)
  | refine zDy ?_|refine zEw rfl ?_|refine zIv ?_|refine zJy ?_
  | ((first|refine zGx rfl rfl rfl rfl rfl fun K_ hK_=>?_|refine zGy rfl rfl rfl rfl rfl fun K_ hK_=>?_);simp only [zAz,zDx,zGz,↓reduceIte,reduceCtorEq,Nat.reduceEqDiff,Bool.not_true,Bool.not_false];refine hK_ _ ?_;clear hK_ K_)
  | refine zDv (by decide) ?_
  | ((try first|refine zKy rfl rfl rfl ?_|refine zIw rfl rfl ?_|refine zKx rfl rfl rfl ?_|refine zJz rfl rfl ?_);(refine zIx fun Q_ hQ_=>?_;simp (disch:=first|omega|(simp only [List.length_cons,List.length_nil,List.length_append];omega)) only [bb,bp,zLx,↓reduceIte,reduceCtorEq,Nat.reduceEqDiff,Nat.reduceLT,Nat.reduceLeDiff,Nat.reduceAdd,Nat.reduceMul,Nat.reduceSub,Nat.reduceBEq,Int.reduceToNat,cond_true,cond_false,eq_self,beq_self_eq_true,hl,f1,f2,g0,g3,g4,g5,hM2,hM0,fv1,fv2,zFw wf,zHx wf,zBv wf,zFx wf,zAy wf,zAx,tEvZ16,zIy,zIz,zHv,zHw,zAv wf];first|(refine zCw (Q:=Q_) (fun hp_=>?_) (fun hp_=>?_) <;> first|(exfalso;omega)|(refine hQ_ _ _ ?_;clear hQ_ Q_))|(refine zBw (Q:=Q_) (fun hp_=>?_) (fun hp_=>?_) <;> first|(exfalso;omega)|(refine hQ_ _ _ ?_;clear hQ_ Q_))|(refine hQ_ _ _ ?_;clear hQ_ Q_)|(refine zKv (e1) ?_;refine hQ_ _ _ ?_;clear hQ_ Q_)))
  | (refine zHz fun K_ hK_=>?_;simp (disch:=omega) only [zFv,zAz,zHy,↓reduceIte,reduceCtorEq,Nat.reduceEqDiff,Nat.reduceLT];refine hK_ _ ?_;clear hK_ K_)))
      refine zOz [.no,.full,.no,.full] (by kernel_rfl) ?_
      (repeat' (first
  | (with_reducible first|refine zJx ?_|refine zGw ?_|refine zFz ?_|refine zEv ?_|refine zFy ?_|refine zJw ?_|refine zGv ?_|refine zCz ?_|refine zDw ?_|refine zCy ?_|refine zCv ?_|refine zEx ?_|refine zDz ?_|refine zCx ?_|refine zBx ?_|refine zEz ?_|refine zEy ?_|refine zAw ?_|refine zBy ?_)
  | refine zDy ?_|refine zEw rfl ?_|refine zIv ?_|refine zJy ?_
  | ((first|refine zGx rfl rfl rfl rfl rfl fun K_ hK_=>?_|refine zGy rfl rfl rfl rfl rfl fun K_ hK_=>?_);simp only [zAz,zDx,zGz,↓reduceIte,reduceCtorEq,Nat.reduceEqDiff,Bool.not_true,Bool.not_false];refine hK_ _ ?_;clear hK_ K_)
  | refine zDv (by decide) ?_
  | ((try first|refine zKy rfl rfl rfl ?_|refine zIw rfl rfl ?_|refine zKx rfl rfl rfl ?_|refine zJz rfl rfl ?_);(refine zIx fun Q_ hQ_=>?_;simp (disch:=first|omega|(simp only [List.length_cons,List.length_nil,List.length_append];omega)) only [bb,bp,zLx,↓reduceIte,reduceCtorEq,Nat.reduceEqDiff,Nat.reduceLT,Nat.reduceLeDiff,Nat.reduceAdd,Nat.reduceMul,Nat.reduceSub,Nat.reduceBEq,Int.reduceToNat,cond_true,cond_false,eq_self,beq_self_eq_true,hl,f1,f2,g0,g3,g4,g5,hM2,hM0,fv1,fv2,zFw wf,zHx wf,zBv wf,zFx wf,zAy wf,zAx,tEvZ16,zIy,zIz,zHv,zHw,zAv wf];first|(refine zCw (Q:=Q_) (fun hp_=>?_) (fun hp_=>?_) <;> first|(exfalso;omega)|(refine hQ_ _ _ ?_;clear hQ_ Q_))|(refine zBw (Q:=Q_) (fun hp_=>?_) (fun hp_=>?_) <;> first|(exfalso;omega)|(refine hQ_ _ _ ?_;clear hQ_ Q_))|(refine hQ_ _ _ ?_;clear hQ_ Q_)))
  | (refine zHz fun K_ hK_=>?_;simp (disch:=omega) only [zFv,zAz,zHy,↓reduceIte,reduceCtorEq,Nat.reduceEqDiff,Nat.reduceLT];refine hK_ _ ?_;clear hK_ K_)))
      have hld:loadE Try.prog 59 (.ptr (nx h 0) 0) (X h (M.set 0 (.cells (zBz [uu (T % 2 ^ 64),uu (T >>> 64),ii (L:Int)]) 59)) (min w h.clock))=some (.agg [uu (T % 2 ^ 64),uu (T >>> 64),ii (L:Int)]):=by
        have e:(M.set 0 (AO.cells (zBz [uu (T % 2 ^ 64),uu (T >>> 64),ii (L:Int)]) 59))[0]? = some (.cells (zBz [uu (T % 2 ^ 64),uu (T >>> 64),ii (L:Int)]) 59):=List.getElem?_set_self (by omega)
        simp (disch:=first|omega|(simp only [List.length_cons,List.length_nil,List.length_append];omega)) only [bb,bp,zLx,↓reduceIte,reduceCtorEq,Nat.reduceEqDiff,Nat.reduceLT,Nat.reduceLeDiff,Nat.reduceAdd,Nat.reduceMul,Nat.reduceSub,Nat.reduceBEq,Int.reduceToNat,cond_true,cond_false,eq_self,beq_self_eq_true,zBv wf,e,tEvZ16,zIy,zIz,zHv,zHw,zAv wf]
      refine zJv _ _ rfl (rettc (by decide) (by decide) (by simp only [zAz,↓reduceIte,reduceCtorEq,Nat.reduceEqDiff];rw [g3];exact hld)) ?_
      simp only [zAz,↓reduceIte,reduceCtorEq,Nat.reduceEqDiff]
      obtain ⟨cap,hve,hMi,hcap⟩:=hat
      subst hve
      refine xTz wf (by omega) (fun hfl=>absurd (show false=true from hfl) (by decide)) (fun _=>?_)
      exact ⟨l,T,L,p,prof,_,M.set 0 (.cells (zBz [uu (T % 2 ^ 64),uu (T >>> 64),ii (L:Int)]) 59),idx,hch,hp,by have:=hrn.2.2.1;rw [hrb] at this;exact this,⟨cap,rfl,by rw [List.getElem?_set_ne (Ne.symm hi0)];exact hMi,hcap⟩,rfl,rfl⟩
    · have hw':Wrong T L (sq bs) r:=⟨hrn.1,hrn.2.2.1,hrn.2.2.2 (by omega)⟩
      have hpr:p≤r:=Nat.le_of_not_lt fun hlt=>hw'.bad (hf.makes r hrn.1 hlt)
      have hch2:=Chain.snoc hch hpr hw' (by omega)
      have hrn' : ¬ ((r:Nat):Int)=(bs.length:Int):=by omega
      have hBok:=hok _ (bestA_mem hf.ne)
      have hBT:(bestA l).T<2 ^ 128:=by
        rcases hf.by_ with h|⟨h1,_⟩
        · rw [h];decide
        · exact Nat.lt_of_lt_of_le h1 (Nat.pow_le_pow_right (by decide) hBok.2)
      have hBat:(bestA l).at_<(r:Int):=by
        rcases hf.by_ with h|⟨_,q',h,h2,_⟩
        · rw [h];show (-1:Int)<_;omega
        · omega
      have hBat2:=hBok.1.1
      generalize hgg:((r:Int) - (bestA l).at_).toNat=g at *
      have hgg':(⟨T,L,(r:Int)⟩:Att).at_ - (bestA l).at_=(g:Int):=by show (r:Int) - _=_;omega
      have cS : ∀ (J:List AO) (w:Nat),w≤h.clock+(M.length+J.length)→(om Try.prog KK).call (.fn 55 [v]) (X h (M++J) w) = .ok (.agg [uu ((bestA l).T % 2 ^ 64),uu ((bestA l).T >>> 64),ii ((bestA l).L:Int),ii (bestA l).at_]) (X h (M++J) w):=fun J w hw=>strongest l hf.ne (by omega) hok v hat.capU _ (wf.X (by rw [List.length_append];exact hw)) ((hat.more J).sl wf w)
      have cM : ∀ (J:List AO) (w:Nat),w≤h.clock+J.length→(om Try.prog KK).call (.fn 71 [.agg [uu (T % 2 ^ 64),uu (T >>> 64),ii (L:Int),ii (r:Int)],.agg [uu ((bestA l).T % 2 ^ 64),uu ((bestA l).T >>> 64),ii ((bestA l).L:Int),ii (bestA l).at_]]) (X h J w) = .ok (.agg [uu (mend T g (bestA l).T % 2 ^ 64),uu (mend T g (bestA l).T >>> 64),ii ((max L ((bestA l).L+g):Nat):Int)]) (X h J w):=fun J w hw=>mendC ⟨T,L,(r:Int)⟩ (bestA l) g hgg' (by omega) hT hBT ⟨hL,hBok.2⟩ _ (wf.X hw)
      generalize mend T g (bestA l).T=T2 at *
      generalize max L ((bestA l).L+g)=L2 at *
      generalize hBa:bestA l=B at *

      have hat2:AttsAt h (M.set 2 (.cells (zBz [uu (T2 % 2 ^ 64),uu (T2 >>> 64),ii (L2:Int)]) 59)++[.cells (zBz (attC ⟨T,L,(r:Int)⟩)) 67]) idx l v:=by
        obtain ⟨cap,hve,hMi,hcap⟩:=hat
        exact ⟨cap,hve,by rw [List.getElem?_append_left (by rw [List.length_set];exact zOw hMi),List.getElem?_set_ne (Ne.symm hi2)];exact hMi,hcap⟩
      obtain ⟨v',M',hat',hlen',hkeep,happ⟩:=hat2.app wf ⟨T,L,(r:Int)⟩ (by omega)
      obtain ⟨w',hw1',hw2',happ⟩:=happ (min (min (h.clock+M.length) w) (min (h.clock+2) (h.clock+(M.length+1))))
      have hM0':M'[0]? = some (.cells (zBz [.int .u64 0,.int .u64 0,.int .i64 0]) 59):=hkeep 0 _ (Ne.symm hi0) (by rw [List.getElem?_append_left (by rw [List.length_set];omega),List.getElem?_set_ne (by decide)];exact hM0)
      have hM2':M'[2]? = some (.cells (zBz [uu (T2 % 2 ^ 64),uu (T2 >>> 64),ii (L2:Int)]) 59):=hkeep 2 _ (Ne.symm hi2) (by rw [List.getElem?_append_left (by rw [List.length_set];omega),List.getElem?_set_self (by omega)])
      have hl7 : ∀ (N:List AO),N.length=M.length → ∀ J w,loadAgg (nx h M.length) 0 (some 4) (X h (N ++ .cells (zBz [uu (T % 2 ^ 64),uu (T >>> 64),ii (L:Int),ii (r:Int)]) 67 :: J) w)=some (.agg [uu (T % 2 ^ 64),uu (T >>> 64),ii (L:Int),ii (r:Int)]):=fun N hN J w=>by
        rw [zBv wf,← hN,xFy,List.getElem?_cons_zero,yVy (by decide)];rfl
      have hl7a:=hl7 M rfl
      have hl7b:=hl7 (M.set 2 (.cells (zBz [uu (T2 % 2 ^ 64),uu (T2 >>> 64),ii (L2:Int)]) 59)) (by rw [List.length_set])
      have hsl:(M.set 2 (AO.cells (zBz [uu (T2 % 2 ^ 64),uu (T2 >>> 64),ii (L2:Int)]) 59)).length=M.length:=List.length_set
      have hset : ∀ J w,writeCells (nx h 2) 0 [uu (T2 % 2 ^ 64),uu (T2 >>> 64),ii (L2:Int)] (X h (M++J) w)=some (X h (M.set 2 (.cells (zBz [uu (T2 % 2 ^ 64),uu (T2 >>> 64),ii (L2:Int)]) 59)++J) (min (h.clock+2) w)):=fun J w=>by
        rw [zAy wf,get hM2 J,yUy]
        have ho:allOne [uu (T2 % 2 ^ 64),uu (T2 >>> 64),ii (L2:Int)]=true:=rfl
        rw [ho,cond_true,if_pos (by show 0+3≤3;decide)]
        show some (X h ((M++J).set 2 _) _)=_
        rw [s2]
        rfl
      have hat4:=hat'.more []
      rw [List.append_nil] at hat4
      unfold attC at happ
      simp only [List.append_assoc,List.cons_append,List.nil_append,List.length_append,hsl,List.length_cons,List.length_nil,Nat.zero_add] at happ
      obtain ⟨fw1,fw2⟩:=zPz (hat'.sl wf h.clock)
      have hrz : ∀ id off l c esz,reszT Try.prog 63 (.sl id off l (some c) esz) = .sl id off l (some c) 4:=fun _ _ _ _ _=>yXz un_63 zQy
      (repeat' (first
  | (with_reducible first|refine zJx ?_|refine zGw ?_|refine zFz ?_|refine zEv ?_|refine zFy ?_|refine zJw ?_|refine zGv ?_|refine zCz ?_|refine zDw ?_|refine zCy ?_|refine zCv ?_|refine zEx ?_|refine zDz ?_|refine zCx ?_|refine zBx ?_|refine zEz ?_|refine zEy ?_|refine zAw ?_|refine zBy ?_)
  | refine zDy ?_|refine zEw rfl ?_|refine zIv ?_|refine zJy ?_
  | ((first|refine zGx rfl rfl rfl rfl rfl fun K_ hK_=>?_|refine zGy rfl rfl rfl rfl rfl fun K_ hK_=>?_);simp only [zAz,zDx,zGz,↓reduceIte,reduceCtorEq,Nat.reduceEqDiff,Bool.not_true,Bool.not_false];refine hK_ _ ?_;clear hK_ K_)
  | refine zDv (by decide) ?_
  | ((try first|refine zKy rfl rfl rfl ?_|refine zIw rfl rfl ?_|refine zKx rfl rfl rfl ?_|refine zJz rfl rfl ?_);(refine zIx fun Q_ hQ_=>?_;simp (disch:=first|omega|(simp only [List.length_cons,List.length_nil,List.length_append];omega)) only [bb,bp,zLx,↓reduceIte,reduceCtorEq,Nat.reduceEqDiff,Nat.reduceLT,Nat.reduceLeDiff,Nat.reduceAdd,Nat.reduceMul,Nat.reduceSub,Nat.reduceBEq,Int.reduceToNat,cond_true,cond_false,eq_self,beq_self_eq_true,hl,f1,f2,g0,g3,g4,g5,hM2,hM0,fv1,fv2,zFw wf,zHx wf,zBv wf,zFx wf,zAy wf,zAx,tEvZ16,zIy,zIz,zHv,zHw,zAv wf];first|(refine zCw (Q:=Q_) (fun hp_=>?_) (fun hp_=>?_) <;> first|(exfalso;omega)|(refine hQ_ _ _ ?_;clear hQ_ Q_))|(refine zBw (Q:=Q_) (fun hp_=>?_) (fun hp_=>?_) <;> first|(exfalso;omega)|(refine hQ_ _ _ ?_;clear hQ_ Q_))|(refine hQ_ _ _ ?_;clear hQ_ Q_)|(refine zKv (e1) ?_;refine hQ_ _ _ ?_;clear hQ_ Q_)))
  | (refine zHz fun K_ hK_=>?_;simp (disch:=omega) only [zFv,zAz,zHy,↓reduceIte,reduceCtorEq,Nat.reduceEqDiff,Nat.reduceLT];refine hK_ _ ?_;clear hK_ K_)))
      refine zOz [.no,.no,.no,.full,.full] (by kernel_rfl) ?_
      (repeat' (first
  | (with_reducible first|refine zJx ?_|refine zGw ?_|refine zFz ?_|refine zEv ?_|refine zFy ?_|refine zJw ?_|refine zGv ?_|refine zCz ?_|refine zDw ?_|refine zCy ?_|refine zCv ?_|refine zEx ?_|refine zDz ?_|refine zCx ?_|refine zBx ?_|refine zEz ?_|refine zEy ?_|refine zAw ?_|refine zBy ?_)
  | refine zDy ?_|refine zEw rfl ?_|refine zIv ?_|refine zJy ?_
  | ((first|refine zGx rfl rfl rfl rfl rfl fun K_ hK_=>?_|refine zGy rfl rfl rfl rfl rfl fun K_ hK_=>?_);simp only [zAz,zDx,zGz,↓reduceIte,reduceCtorEq,Nat.reduceEqDiff,Bool.not_true,Bool.not_false];refine hK_ _ ?_;clear hK_ K_)
  | refine zDv (by decide) ?_
  | ((try first|refine zKy rfl rfl rfl ?_|refine zIw rfl rfl ?_|refine zKx rfl rfl rfl ?_|refine zJz rfl rfl ?_);(refine zIx fun Q_ hQ_=>?_;simp (disch:=first|omega|(simp only [List.length_cons,List.length_nil,List.length_append];omega)) only [bb,bp,zLx,↓reduceIte,reduceCtorEq,Nat.reduceEqDiff,Nat.reduceLT,Nat.reduceLeDiff,Nat.reduceAdd,Nat.reduceMul,Nat.reduceSub,Nat.reduceBEq,Int.reduceToNat,cond_true,cond_false,eq_self,beq_self_eq_true,hl,f1,f2,g0,g3,g4,g5,hM2,hM0,fv1,fv2,hl7a,cS,cM,hset,tEvZ16,zIy,zIz,zHv,zHw,zAv wf];first|(refine zCw (Q:=Q_) (fun hp_=>?_) (fun hp_=>?_) <;> first|(exfalso;omega)|(refine hQ_ _ _ ?_;clear hQ_ Q_))|(refine zBw (Q:=Q_) (fun hp_=>?_) (fun hp_=>?_) <;> first|(exfalso;omega)|(refine hQ_ _ _ ?_;clear hQ_ Q_))|(refine hQ_ _ _ ?_;clear hQ_ Q_)))
  | (refine zHz fun K_ hK_=>?_;simp (disch:=omega) only [zFv,zAz,zHy,↓reduceIte,reduceCtorEq,Nat.reduceEqDiff,Nat.reduceLT];refine hK_ _ ?_;clear hK_ K_)))
      (repeat' (first
  | (with_reducible first|refine zJx ?_|refine zGw ?_|refine zFz ?_|refine zEv ?_|refine zFy ?_|refine zJw ?_|refine zGv ?_|refine zCz ?_|refine zDw ?_|refine zCy ?_|refine zCv ?_|refine zEx ?_|refine zDz ?_|refine zCx ?_|refine zBx ?_|refine zEz ?_|refine zEy ?_|refine zAw ?_|refine zBy ?_)
  | refine zDy ?_|refine zEw rfl ?_|refine zIv ?_|refine zJy ?_
  | ((first|refine zGx rfl rfl rfl rfl rfl fun K_ hK_=>?_|refine zGy rfl rfl rfl rfl rfl fun K_ hK_=>?_);simp only [zAz,zDx,zGz,↓reduceIte,reduceCtorEq,Nat.reduceEqDiff,Bool.not_true,Bool.not_false];refine hK_ _ ?_;clear hK_ K_)
  | refine zDv (by decide) ?_
  | ((try first|refine zKy rfl rfl rfl ?_|refine zIw rfl rfl ?_|refine zKx rfl rfl rfl ?_|refine zJz rfl rfl ?_);(refine zIx fun Q_ hQ_=>?_;simp (disch:=first|omega|(simp only [List.length_cons,List.length_nil,List.length_append];omega)) only [bb,bp,zLx,↓reduceIte,reduceCtorEq,Nat.reduceEqDiff,Nat.reduceLT,Nat.reduceLeDiff,Nat.reduceAdd,Nat.reduceMul,Nat.reduceSub,Nat.reduceBEq,Int.reduceToNat,cond_true,cond_false,eq_self,beq_self_eq_true,hl,f1,f2,g0,g3,g4,g5,hl7b,fv1,fv2,fw1,fw2,happ,hrz,hsl,zRv,tEvZ16,zIy,zIz,zHv,zHw,zAv wf];first|(refine zCw (Q:=Q_) (fun hp_=>?_) (fun hp_=>?_) <;> first|(exfalso;omega)|(refine hQ_ _ _ ?_;clear hQ_ Q_))|(refine zBw (Q:=Q_) (fun hp_=>?_) (fun hp_=>?_) <;> first|(exfalso;omega)|(refine hQ_ _ _ ?_;clear hQ_ Q_))|(refine hQ_ _ _ ?_;clear hQ_ Q_)))
  | (refine zHz fun K_ hK_=>?_;simp (disch:=omega) only [zFv,zAz,zHy,↓reduceIte,reduceCtorEq,Nat.reduceEqDiff,Nat.reduceLT];refine hK_ _ ?_;clear hK_ K_)))
      have hM2'':M'[2]? = some (.cells (zBz (rg T2 L2)) 59):=hM2'
      rw [List.length_append,hsl] at hlen' hat'
      refine zLy (r+1) (by omega) ⟨by omega,by simp only [zAz,↓reduceIte,reduceCtorEq,Nat.reduceEqDiff];exact g0,by simp only [zAz,↓reduceIte,reduceCtorEq,Nat.reduceEqDiff];exact g3,by simp only [zAz,↓reduceIte,reduceCtorEq,Nat.reduceEqDiff];exact g5,rfl,l++[⟨T,L,(r:Int)⟩],T2,L2,_,v',M',w',_,by simp only [zAz,↓reduceIte,reduceCtorEq,Nat.reduceEqDiff],hch2,hat',by omega,by simp only [List.length_cons,List.length_nil];omega,hM0',hM2'',rfl,by omega,?_⟩
      simp only [List.length_cons,List.length_nil] at hlen'
      omega
  · exact ⟨Nat.zero_le _,rfl,rfl,rfl,rfl,[⟨0,0,-1⟩],0,0,[],_,_,_,1,rfl,.nil,⟨some 1,rfl,rfl,.inr rfl⟩,by decide,by decide,rfl,rfl,rfl,by omega,by show _≤h.clock+3;omega⟩
end Go.Proofs.Ytmincoafjnnkpaa
end

section
namespace Go.Proofs.Ytmincoafjnnkpaa
open Go.Ev
set_option maxRecDepth 100000
set_option linter.unusedSimpArgs false
set_option linter.unusedVariables false
set_option maxHeartbeats 2000000
theorem tEvZ13 :type_of% (And.intro (And.intro (And.intro (And.intro (And.intro (And.intro (And.intro (@yQv) (@yQw)) (And.intro (@yQx) (@yQy))) (And.intro (And.intro (@yQz) (@yPv)) (And.intro (@ia_2) (And.intro (@ia_3) (@ia_4))))) (And.intro (And.intro (And.intro (@ia_5) (@yPw)) (And.intro (@yPx) (@yPy))) (And.intro (And.intro (@yPz) (@yOv)) (And.intro (@yOw) (And.intro (@zSz) (@yOx)))))) (And.intro (And.intro (And.intro (And.intro (@yOy) (@yOz)) (And.intro (@yNv) (@yNw))) (And.intro (And.intro (@yNx) (@yNy)) (And.intro (@yNz) (And.intro (@yMv) (@sz_2))))) (And.intro (And.intro (And.intro (@sz_3) (@sz_4)) (And.intro (@sz_5) (And.intro (@zYv) (@zYw)))) (And.intro (And.intro (@zYx) (@zYy)) (And.intro (@zYz) (And.intro (@zXv) (@zRx))))))) (And.intro (And.intro (And.intro (And.intro (And.intro (@zXw) (@zXx)) (And.intro (@zXy) (@zQy))) (And.intro (And.intro (@zXz) (@zWv)) (And.intro (@zWw) (And.intro (@zWx) (@zWy))))) (And.intro (And.intro (And.intro (@ze_2) (@ze_3)) (And.intro (@ze_4) (And.intro (@ze_5) (@zWz)))) (And.intro (And.intro (@zVv) (@zVw)) (And.intro (@zVx) (And.intro (@zVy) (@zVz)))))) (And.intro (And.intro (And.intro (And.intro (@zUv) (@zUw)) (And.intro (@zUx) (@zUy))) (And.intro (And.intro (@zUz) (@zTv)) (And.intro (@zTw) (And.intro (@zTx) (@zTy))))) (And.intro (And.intro (And.intro (@zNv) (@zNw)) (And.intro (@zNx) (And.intro (@zNy) (@zNz)))) (And.intro (And.intro (@zMv) (@zMw)) (And.intro (@zMx) (And.intro (@zMy) (@yMy)))))))) (And.intro (And.intro (And.intro (And.intro (And.intro (And.intro (@yMz) (@yLv)) (And.intro (@yLw) (@yLx))) (And.intro (And.intro (@yLy) (@yLz)) (And.intro (@yKv) (And.intro (@yKw) (@yKx))))) (And.intro (And.intro (And.intro (@yKy) (@yKz)) (And.intro (@yJv) (@yJw))) (And.intro (And.intro (@yJx) (@yJy)) (And.intro (@yJz) (And.intro (@yIv) (@yIw)))))) (And.intro (And.intro (And.intro (And.intro (@yIx) (@yIy)) (And.intro (@yIz) (@yHv))) (And.intro (And.intro (@yHw) (@yHx)) (And.intro (@yHy) (And.intro (@yHz) (@yGv))))) (And.intro (And.intro (And.intro (@yGw) (@yGx)) (And.intro (@yGy) (And.intro (@yGz) (@yFv)))) (And.intro (And.intro (@yFw) (@yFx)) (And.intro (@yFy) (And.intro (@yFz) (@yEv))))))) (And.intro (And.intro (And.intro (And.intro (And.intro (@yEw) (@yEx)) (And.intro (@yEy) (@yEz))) (And.intro (And.intro (@yDv) (@yDw)) (And.intro (@yDx) (And.intro (@yDy) (@yDz))))) (And.intro (And.intro (And.intro (@yCv) (@yCw)) (And.intro (@yCx) (And.intro (@yCy) (@yCz)))) (And.intro (And.intro (@zSx) (@yBv)) (And.intro (@yBw) (And.intro (@yBx) (@yBy)))))) (And.intro (And.intro (And.intro (And.intro (@yBz) (@yAv)) (And.intro (@yAw) (@yAx))) (And.intro (And.intro (@yAy) (@yAz)) (And.intro (@zZv) (And.intro (@zZw) (@zZx))))) (And.intro (And.intro (And.intro (@zZy) (@zZz)) (And.intro (@zQz) (And.intro (@yMw) (@zTz)))) (And.intro (And.intro (@zQv) (@zSv)) (And.intro (@zSw) (And.intro (@yMx) (@zRv))))))))):=And.intro (And.intro (And.intro (And.intro (And.intro (And.intro (And.intro (@yQv) (@yQw)) (And.intro (@yQx) (@yQy))) (And.intro (And.intro (@yQz) (@yPv)) (And.intro (@ia_2) (And.intro (@ia_3) (@ia_4))))) (And.intro (And.intro (And.intro (@ia_5) (@yPw)) (And.intro (@yPx) (@yPy))) (And.intro (And.intro (@yPz) (@yOv)) (And.intro (@yOw) (And.intro (@zSz) (@yOx)))))) (And.intro (And.intro (And.intro (And.intro (@yOy) (@yOz)) (And.intro (@yNv) (@yNw))) (And.intro (And.intro (@yNx) (@yNy)) (And.intro (@yNz) (And.intro (@yMv) (@sz_2))))) (And.intro (And.intro (And.intro (@sz_3) (@sz_4)) (And.intro (@sz_5) (And.intro (@zYv) (@zYw)))) (And.intro (And.intro (@zYx) (@zYy)) (And.intro (@zYz) (And.intro (@zXv) (@zRx))))))) (And.intro (And.intro (And.intro (And.intro (And.intro (@zXw) (@zXx)) (And.intro (@zXy) (@zQy))) (And.intro (And.intro (@zXz) (@zWv)) (And.intro (@zWw) (And.intro (@zWx) (@zWy))))) (And.intro (And.intro (And.intro (@ze_2) (@ze_3)) (And.intro (@ze_4) (And.intro (@ze_5) (@zWz)))) (And.intro (And.intro (@zVv) (@zVw)) (And.intro (@zVx) (And.intro (@zVy) (@zVz)))))) (And.intro (And.intro (And.intro (And.intro (@zUv) (@zUw)) (And.intro (@zUx) (@zUy))) (And.intro (And.intro (@zUz) (@zTv)) (And.intro (@zTw) (And.intro (@zTx) (@zTy))))) (And.intro (And.intro (And.intro (@zNv) (@zNw)) (And.intro (@zNx) (And.intro (@zNy) (@zNz)))) (And.intro (And.intro (@zMv) (@zMw)) (And.intro (@zMx) (And.intro (@zMy) (@yMy)))))))) (And.intro (And.intro (And.intro (And.intro (And.intro (And.intro (@yMz) (@yLv)) (And.intro (@yLw) (@yLx))) (And.intro (And.intro (@yLy) (@yLz)) (And.intro (@yKv) (And.intro (@yKw) (@yKx))))) (And.intro (And.intro (And.intro (@yKy) (@yKz)) (And.intro (@yJv) (@yJw))) (And.intro (And.intro (@yJx) (@yJy)) (And.intro (@yJz) (And.intro (@yIv) (@yIw)))))) (And.intro (And.intro (And.intro (And.intro (@yIx) (@yIy)) (And.intro (@yIz) (@yHv))) (And.intro (And.intro (@yHw) (@yHx)) (And.intro (@yHy) (And.intro (@yHz) (@yGv))))) (And.intro (And.intro (And.intro (@yGw) (@yGx)) (And.intro (@yGy) (And.intro (@yGz) (@yFv)))) (And.intro (And.intro (@yFw) (@yFx)) (And.intro (@yFy) (And.intro (@yFz) (@yEv))))))) (And.intro (And.intro (And.intro (And.intro (And.intro (@yEw) (@yEx)) (And.intro (@yEy) (@yEz))) (And.intro (And.intro (@yDv) (@yDw)) (And.intro (@yDx) (And.intro (@yDy) (@yDz))))) (And.intro (And.intro (And.intro (@yCv) (@yCw)) (And.intro (@yCx) (And.intro (@yCy) (@yCz)))) (And.intro (And.intro (@zSx) (@yBv)) (And.intro (@yBw) (And.intro (@yBx) (@yBy)))))) (And.intro (And.intro (And.intro (And.intro (@yBz) (@yAv)) (And.intro (@yAw) (@yAx))) (And.intro (And.intro (@yAy) (@yAz)) (And.intro (@zZv) (And.intro (@zZw) (@zZx))))) (And.intro (And.intro (And.intro (@zZy) (@zZz)) (And.intro (@zQz) (And.intro (@yMw) (@zTz)))) (And.intro (And.intro (@zQv) (@zSv)) (And.intro (@zSw) (And.intro (@yMx) (@zRv))))))))
theorem runErr (xs ys:List Int) (many:Int) (a b:AV) (h:H) (wf:Wf h) (hs:Sl h a 1 xs.length (xs.map ii)) (ht:Sl h b 1 ys.length (ys.map ii)) (hne:errRun xs ys many≠0):(om Try.prog KK).call (.fn 16 [a,b,ii many]) h = .ok (.tup [.nils,ii (errRun xs ys many)]) h:=by
  obtain ⟨f1,f2⟩:=zPz ht
  have cst : ∀ (l:List AO) (w:Nat),w≤h.clock+l.length→(om Try.prog KK).call (.fn 41 [a,b]) (X h l w) = .ok (ii (err3 xs ys)) (X h l w):=fun l w hw=>checkStart xs ys a b _ (wf.X hw) (hs.up wf l w) (ht.up wf l w)
  unfold errRun at *
  refine zPv (zLw (fn:=Try.f16) Try.func16 rfl rfl rfl rfl rfl ?_)
  simp only [zLx]
  by_cases he:err3 xs ys=0
  · rw [if_pos he] at hne ⊢
    rw [he] at cst
    by_cases h0:many<0
    · rw [if_pos h0]
      (repeat' (first
  | (with_reducible first|refine zJx ?_|refine zGw ?_|refine zFz ?_|refine zEv ?_|refine zFy ?_|refine zJw ?_|refine zGv ?_|refine zCz ?_|refine zDw ?_|refine zCy ?_|refine zCv ?_|refine zEx ?_|refine zDz ?_|refine zCx ?_|refine zBx ?_|refine zEz ?_|refine zEy ?_|refine zAw ?_|refine zBy ?_)
  | refine zDy ?_|refine zEw rfl ?_|refine zIv ?_|refine zJy ?_
  | ((first|refine zGx rfl rfl rfl rfl rfl fun K_ hK_=>?_|refine zGy rfl rfl rfl rfl rfl fun K_ hK_=>?_);simp only [zAz,zDx,zGz,↓reduceIte,reduceCtorEq,Nat.reduceEqDiff,Bool.not_true,Bool.not_false];refine hK_ _ ?_;clear hK_ K_)
  | refine zDv (by decide) ?_
  | ((try first|refine zKy rfl rfl rfl ?_|refine zIw rfl rfl ?_|refine zKx rfl rfl rfl ?_|refine zJz rfl rfl ?_);(refine zIx fun Q_ hQ_=>?_;simp (disch:=first|omega|(simp only [List.length_cons,List.length_nil,List.length_append];omega)) only [bb,bp,zLx,↓reduceIte,reduceCtorEq,Nat.reduceEqDiff,Nat.reduceLT,Nat.reduceLeDiff,Nat.reduceAdd,Nat.reduceMul,Nat.reduceSub,Nat.reduceBEq,Int.reduceToNat,cond_true,cond_false,eq_self,beq_self_eq_true,f1,f2,zFw wf,zHx wf,zBv wf,zFx wf,zAy wf,zAx,tEvZ13,zIy,zIz,zHv,zHw,zAv wf];first|(refine zCw (Q:=Q_) (fun hp_=>?_) (fun hp_=>?_) <;> first|(exfalso;omega)|(refine hQ_ _ _ ?_;clear hQ_ Q_))|(refine zBw (Q:=Q_) (fun hp_=>?_) (fun hp_=>?_) <;> first|(exfalso;omega)|(refine hQ_ _ _ ?_;clear hQ_ Q_))|(refine hQ_ _ _ ?_;clear hQ_ Q_)|(refine zKv (cst _ _ (by first|omega|(simp only [List.length_append,List.length_cons,List.length_nil];omega))) ?_;refine hQ_ _ _ ?_;clear hQ_ Q_)))
  | (refine zHz fun K_ hK_=>?_;simp (disch:=omega) only [zFv,zAz,zHy,↓reduceIte,reduceCtorEq,Nat.reduceEqDiff,Nat.reduceLT];refine hK_ _ ?_;clear hK_ K_)))
      all_goals (refine zJv _ _ rfl (ret2 (by decide) (by decide)) ?_;simp only [zAz,↓reduceIte,reduceCtorEq,Nat.reduceEqDiff];refine zLz rfl (by omega) ?_)
      all_goals exact ⟨rfl,rfl⟩
    · rw [if_neg h0] at hne ⊢
      by_cases h1:4096<many
      · rw [if_pos h1]
        (repeat' (first
  | (with_reducible first|refine zJx ?_|refine zGw ?_|refine zFz ?_|refine zEv ?_|refine zFy ?_|refine zJw ?_|refine zGv ?_|refine zCz ?_|refine zDw ?_|refine zCy ?_|refine zCv ?_|refine zEx ?_|refine zDz ?_|refine zCx ?_|refine zBx ?_|refine zEz ?_|refine zEy ?_|refine zAw ?_|refine zBy ?_)
  | refine zDy ?_|refine zEw rfl ?_|refine zIv ?_|refine zJy ?_
  | ((first|refine zGx rfl rfl rfl rfl rfl fun K_ hK_=>?_|refine zGy rfl rfl rfl rfl rfl fun K_ hK_=>?_);simp only [zAz,zDx,zGz,↓reduceIte,reduceCtorEq,Nat.reduceEqDiff,Bool.not_true,Bool.not_false];refine hK_ _ ?_;clear hK_ K_)
  | refine zDv (by decide) ?_
  | ((try first|refine zKy rfl rfl rfl ?_|refine zIw rfl rfl ?_|refine zKx rfl rfl rfl ?_|refine zJz rfl rfl ?_);(refine zIx fun Q_ hQ_=>?_;simp (disch:=first|omega|(simp only [List.length_cons,List.length_nil,List.length_append];omega)) only [bb,bp,zLx,↓reduceIte,reduceCtorEq,Nat.reduceEqDiff,Nat.reduceLT,Nat.reduceLeDiff,Nat.reduceAdd,Nat.reduceMul,Nat.reduceSub,Nat.reduceBEq,Int.reduceToNat,cond_true,cond_false,eq_self,beq_self_eq_true,f1,f2,zFw wf,zHx wf,zBv wf,zFx wf,zAy wf,zAx,tEvZ13,zIy,zIz,zHv,zHw,zAv wf];first|(refine zCw (Q:=Q_) (fun hp_=>?_) (fun hp_=>?_) <;> first|(exfalso;omega)|(refine hQ_ _ _ ?_;clear hQ_ Q_))|(refine zBw (Q:=Q_) (fun hp_=>?_) (fun hp_=>?_) <;> first|(exfalso;omega)|(refine hQ_ _ _ ?_;clear hQ_ Q_))|(refine hQ_ _ _ ?_;clear hQ_ Q_)|(refine zKv (cst _ _ (by first|omega|(simp only [List.length_append,List.length_cons,List.length_nil];omega))) ?_;refine hQ_ _ _ ?_;clear hQ_ Q_)))
  | (refine zHz fun K_ hK_=>?_;simp (disch:=omega) only [zFv,zAz,zHy,↓reduceIte,reduceCtorEq,Nat.reduceEqDiff,Nat.reduceLT];refine hK_ _ ?_;clear hK_ K_)))
        all_goals (refine zJv _ _ rfl (ret2 (by decide) (by decide)) ?_;simp only [zAz,↓reduceIte,reduceCtorEq,Nat.reduceEqDiff];refine zLz rfl (by omega) ?_)
        all_goals exact ⟨rfl,rfl⟩
      · rw [if_neg h1] at hne
        exact absurd rfl hne
  · rw [if_neg he]
    generalize err3 xs ys=e at *
    (repeat' (first
  | (with_reducible first|refine zJx ?_|refine zGw ?_|refine zFz ?_|refine zEv ?_|refine zFy ?_|refine zJw ?_|refine zGv ?_|refine zCz ?_|refine zDw ?_|refine zCy ?_|refine zCv ?_|refine zEx ?_|refine zDz ?_|refine zCx ?_|refine zBx ?_|refine zEz ?_|refine zEy ?_|refine zAw ?_|refine zBy ?_)
  | refine zDy ?_|refine zEw rfl ?_|refine zIv ?_|refine zJy ?_
  | ((first|refine zGx rfl rfl rfl rfl rfl fun K_ hK_=>?_|refine zGy rfl rfl rfl rfl rfl fun K_ hK_=>?_);simp only [zAz,zDx,zGz,↓reduceIte,reduceCtorEq,Nat.reduceEqDiff,Bool.not_true,Bool.not_false];refine hK_ _ ?_;clear hK_ K_)
  | refine zDv (by decide) ?_
  | ((try first|refine zKy rfl rfl rfl ?_|refine zIw rfl rfl ?_|refine zKx rfl rfl rfl ?_|refine zJz rfl rfl ?_);(refine zIx fun Q_ hQ_=>?_;simp (disch:=first|omega|(simp only [List.length_cons,List.length_nil,List.length_append];omega)) only [bb,bp,zLx,↓reduceIte,reduceCtorEq,Nat.reduceEqDiff,Nat.reduceLT,Nat.reduceLeDiff,Nat.reduceAdd,Nat.reduceMul,Nat.reduceSub,Nat.reduceBEq,Int.reduceToNat,cond_true,cond_false,eq_self,beq_self_eq_true,f1,f2,zFw wf,zHx wf,zBv wf,zFx wf,zAy wf,zAx,tEvZ13,zIy,zIz,zHv,zHw,zAv wf];first|(refine zCw (Q:=Q_) (fun hp_=>?_) (fun hp_=>?_) <;> first|(exfalso;omega)|(refine hQ_ _ _ ?_;clear hQ_ Q_))|(refine zBw (Q:=Q_) (fun hp_=>?_) (fun hp_=>?_) <;> first|(exfalso;omega)|(refine hQ_ _ _ ?_;clear hQ_ Q_))|(refine hQ_ _ _ ?_;clear hQ_ Q_)|(refine zKv (cst _ _ (by first|omega|(simp only [List.length_append,List.length_cons,List.length_nil];omega))) ?_;refine hQ_ _ _ ?_;clear hQ_ Q_)))
  | (refine zHz fun K_ hK_=>?_;simp (disch:=omega) only [zFv,zAz,zHy,↓reduceIte,reduceCtorEq,Nat.reduceEqDiff,Nat.reduceLT];refine hK_ _ ?_;clear hK_ K_)))
    all_goals (refine zJv _ _ rfl (ret2 (by decide) (by decide)) ?_;simp only [zAz,↓reduceIte,reduceCtorEq,Nat.reduceEqDiff];refine zLz rfl (by omega) ?_)
    all_goals exact ⟨rfl,rfl⟩
def madeI (xs ys:List Int) (many:Int):List Int:=if errRun xs ys many=0 then (mL (runS (bN (bitL xs)) (bitL xs).length (sq (bitL ys))) many.toNat).map (fun b=>((b.toNat:Nat):Int)) else []
theorem map_bi (bs:List Bool):(bs.map fun b=>((b.toNat:Nat):Int)).map ii=bs.map bi:=by rw [List.map_map];rfl
theorem run_any (xs ys:List Int) (many:Int) (a b:AV) (hcb:CapU 1 b) (h:H) (wf:Wf h) (hs:Sl h a 1 xs.length (xs.map ii)) (ht:Sl h b 1 ys.length (ys.map ii)) :
    ∃ v L,CapU 1 v∧Sl (X h L h.w) v 1 (madeI xs ys many).length ((madeI xs ys many).map ii)∧(om Try.prog KK).call (.fn 16 [a,b,ii many]) h = .ok (.tup [v,ii (errRun xs ys many)]) (X h L h.w):=by
  by_cases hne:errRun xs ys many=0
  · have h3:err3 xs ys=0:=by
      unfold errRun at hne
      split at hne
      · assumption
      · contradiction
    have hm : ¬ many<0 ∧ ¬ 4096<many:=by
      unfold errRun at hne
      rw [if_pos h3] at hne
      split at hne
      · contradiction
      · split at hne
        · contradiction
        · exact ⟨by assumption,by assumption⟩
    obtain ⟨⟨k1,k2⟩,k3,k4⟩:=err3_ok h3
    have hs':Sl h a 1 (bitL xs).length ((bitL xs).map bi):=by rw [zKw,← ySw k2];exact hs
    have ht':Sl h b 1 (bitL ys).length ((bitL ys).map bi):=by rw [zKw,← ySw k3];exact ht
    obtain ⟨L,hL,e⟩:=runOK (bitL xs) (bitL ys) (by rw [zKw];exact k1) (by rw [zKw,zKw];exact k4) many.toNat (by omega) a b h wf hs' ht' hcb xs ys (zKw xs).symm (ySw k2) (zKw ys).symm (ySw k3) h3
    rw [show ((many.toNat:Nat):Int)=many from by omega] at e
    refine ⟨_,L,capu_some (Nat.le_refl _),?_,by rw [hne];exact e⟩
    unfold madeI
    rw [if_pos hne,map_bi,List.length_map,mL_length]
    exact Sl.new wf (by rw [List.length_map,mL_length,Nat.mul_one]) hL
  · refine ⟨.nils,[],capd_nils.capu 1,?_,by rw [X_self];exact runErr xs ys many a b h wf hs ht hne⟩
    unfold madeI
    rw [if_neg hne]
    exact Sl.nil _ _
end Go.Proofs.Ytmincoafjnnkpaa
end

section
namespace Go.Proofs.Ytmincoafjnnkpaa
open Go.Ev
set_option maxRecDepth 100000
set_option linter.unusedSimpArgs false
set_option linter.unusedVariables false
set_option maxHeartbeats 2000000
theorem tEvZ17 :type_of% (And.intro (And.intro (And.intro (And.intro (And.intro (And.intro (And.intro (@yQv) (@yQw)) (And.intro (@yQx) (@yQy))) (And.intro (And.intro (@yQz) (@yPv)) (And.intro (@ia_2) (And.intro (@ia_3) (@ia_4))))) (And.intro (And.intro (And.intro (@ia_5) (@yPw)) (And.intro (@yPx) (@yPy))) (And.intro (And.intro (@yPz) (@yOv)) (And.intro (@yOw) (And.intro (@zSz) (@yOx)))))) (And.intro (And.intro (And.intro (And.intro (@yOy) (@yOz)) (And.intro (@yNv) (@yNw))) (And.intro (And.intro (@yNx) (@yNy)) (And.intro (@yNz) (And.intro (@yMv) (@sz_2))))) (And.intro (And.intro (And.intro (@sz_3) (@sz_4)) (And.intro (@sz_5) (And.intro (@zYv) (@zYw)))) (And.intro (And.intro (@zYx) (@zYy)) (And.intro (@zYz) (And.intro (@zXv) (@zRx))))))) (And.intro (And.intro (And.intro (And.intro (And.intro (@zXw) (@zXx)) (And.intro (@zXy) (@zQy))) (And.intro (And.intro (@zXz) (@zWv)) (And.intro (@zWw) (And.intro (@zWx) (@zWy))))) (And.intro (And.intro (And.intro (@ze_2) (@ze_3)) (And.intro (@ze_4) (And.intro (@ze_5) (@zWz)))) (And.intro (And.intro (@zVv) (@zVw)) (And.intro (@zVx) (And.intro (@zVy) (@zVz)))))) (And.intro (And.intro (And.intro (And.intro (@zUv) (@zUw)) (And.intro (@zUx) (@zUy))) (And.intro (And.intro (@zUz) (@zTv)) (And.intro (@zTw) (And.intro (@zTx) (@zTy))))) (And.intro (And.intro (And.intro (@zNv) (@zNw)) (And.intro (@zNx) (And.intro (@zNy) (@zNz)))) (And.intro (And.intro (@zMv) (@zMw)) (And.intro (@zMx) (And.intro (@zMy) (@yMy)))))))) (And.intro (And.intro (And.intro (And.intro (And.intro (And.intro (@yMz) (@yLv)) (And.intro (@yLw) (@yLx))) (And.intro (And.intro (@yLy) (@yLz)) (And.intro (@yKv) (And.intro (@yKw) (@yKx))))) (And.intro (And.intro (And.intro (@yKy) (@yKz)) (And.intro (@yJv) (@yJw))) (And.intro (And.intro (@yJx) (@yJy)) (And.intro (@yJz) (And.intro (@yIv) (@yIw)))))) (And.intro (And.intro (And.intro (And.intro (@yIx) (@yIy)) (And.intro (@yIz) (@yHv))) (And.intro (And.intro (@yHw) (@yHx)) (And.intro (@yHy) (And.intro (@yHz) (@yGv))))) (And.intro (And.intro (And.intro (@yGw) (@yGx)) (And.intro (@yGy) (And.intro (@yGz) (@yFv)))) (And.intro (And.intro (@yFw) (@yFx)) (And.intro (@yFy) (And.intro (@yFz) (@yEv))))))) (And.intro (And.intro (And.intro (And.intro (And.intro (@yEw) (@yEx)) (And.intro (@yEy) (@yEz))) (And.intro (And.intro (@yDv) (@yDw)) (And.intro (@yDx) (And.intro (@yDy) (@yDz))))) (And.intro (And.intro (And.intro (@yCv) (@yCw)) (And.intro (@yCx) (And.intro (@yCy) (@yCz)))) (And.intro (And.intro (@zSx) (@yBv)) (And.intro (@yBw) (And.intro (@yBx) (@yBy)))))) (And.intro (And.intro (And.intro (And.intro (@yBz) (@yAv)) (And.intro (@yAw) (@yAx))) (And.intro (And.intro (@yAy) (@yAz)) (And.intro (@zZv) (And.intro (@zZw) (@zZx))))) (And.intro (And.intro (And.intro (@zZy) (@zZz)) (And.intro (@zQz) (And.intro (@yMw) (@zTz)))) (And.intro (And.intro (@zQv) (@zSv)) (And.intro (@zSw) (And.intro (@yMx) (@zRv))))))))):=And.intro (And.intro (And.intro (And.intro (And.intro (And.intro (And.intro (@yQv) (@yQw)) (And.intro (@yQx) (@yQy))) (And.intro (And.intro (@yQz) (@yPv)) (And.intro (@ia_2) (And.intro (@ia_3) (@ia_4))))) (And.intro (And.intro (And.intro (@ia_5) (@yPw)) (And.intro (@yPx) (@yPy))) (And.intro (And.intro (@yPz) (@yOv)) (And.intro (@yOw) (And.intro (@zSz) (@yOx)))))) (And.intro (And.intro (And.intro (And.intro (@yOy) (@yOz)) (And.intro (@yNv) (@yNw))) (And.intro (And.intro (@yNx) (@yNy)) (And.intro (@yNz) (And.intro (@yMv) (@sz_2))))) (And.intro (And.intro (And.intro (@sz_3) (@sz_4)) (And.intro (@sz_5) (And.intro (@zYv) (@zYw)))) (And.intro (And.intro (@zYx) (@zYy)) (And.intro (@zYz) (And.intro (@zXv) (@zRx))))))) (And.intro (And.intro (And.intro (And.intro (And.intro (@zXw) (@zXx)) (And.intro (@zXy) (@zQy))) (And.intro (And.intro (@zXz) (@zWv)) (And.intro (@zWw) (And.intro (@zWx) (@zWy))))) (And.intro (And.intro (And.intro (@ze_2) (@ze_3)) (And.intro (@ze_4) (And.intro (@ze_5) (@zWz)))) (And.intro (And.intro (@zVv) (@zVw)) (And.intro (@zVx) (And.intro (@zVy) (@zVz)))))) (And.intro (And.intro (And.intro (And.intro (@zUv) (@zUw)) (And.intro (@zUx) (@zUy))) (And.intro (And.intro (@zUz) (@zTv)) (And.intro (@zTw) (And.intro (@zTx) (@zTy))))) (And.intro (And.intro (And.intro (@zNv) (@zNw)) (And.intro (@zNx) (And.intro (@zNy) (@zNz)))) (And.intro (And.intro (@zMv) (@zMw)) (And.intro (@zMx) (And.intro (@zMy) (@yMy)))))))) (And.intro (And.intro (And.intro (And.intro (And.intro (And.intro (@yMz) (@yLv)) (And.intro (@yLw) (@yLx))) (And.intro (And.intro (@yLy) (@yLz)) (And.intro (@yKv) (And.intro (@yKw) (@yKx))))) (And.intro (And.intro (And.intro (@yKy) (@yKz)) (And.intro (@yJv) (@yJw))) (And.intro (And.intro (@yJx) (@yJy)) (And.intro (@yJz) (And.intro (@yIv) (@yIw)))))) (And.intro (And.intro (And.intro (And.intro (@yIx) (@yIy)) (And.intro (@yIz) (@yHv))) (And.intro (And.intro (@yHw) (@yHx)) (And.intro (@yHy) (And.intro (@yHz) (@yGv))))) (And.intro (And.intro (And.intro (@yGw) (@yGx)) (And.intro (@yGy) (And.intro (@yGz) (@yFv)))) (And.intro (And.intro (@yFw) (@yFx)) (And.intro (@yFy) (And.intro (@yFz) (@yEv))))))) (And.intro (And.intro (And.intro (And.intro (And.intro (@yEw) (@yEx)) (And.intro (@yEy) (@yEz))) (And.intro (And.intro (@yDv) (@yDw)) (And.intro (@yDx) (And.intro (@yDy) (@yDz))))) (And.intro (And.intro (And.intro (@yCv) (@yCw)) (And.intro (@yCx) (And.intro (@yCy) (@yCz)))) (And.intro (And.intro (@zSx) (@yBv)) (And.intro (@yBw) (And.intro (@yBx) (@yBy)))))) (And.intro (And.intro (And.intro (And.intro (@yBz) (@yAv)) (And.intro (@yAw) (@yAx))) (And.intro (And.intro (@yAy) (@yAz)) (And.intro (@zZv) (And.intro (@zZw) (@zZx))))) (And.intro (And.intro (And.intro (@zZy) (@zZz)) (And.intro (@zQz) (And.intro (@yMw) (@zTz)))) (And.intro (And.intro (@zQv) (@zSv)) (And.intro (@zSw) (And.intro (@yMx) (@zRv))))))))
theorem xDy {xs:List Int} (h:errB xs=0):xs.length≤128∧xs.map ii=(bitL xs).map bi:=⟨(xMw.1 h).1,ySw (xMw.1 h).2⟩
theorem chain_cx {s:Nat→Bool} {l:List Att} {T L p n:Nat} {prof:List Nat} (h:Chain s l T L p prof) (hp:p≤n) (hm:Makes T L s n):Cpx s n L:=
  ⟨⟨T,h.facts.lt,hm⟩,fun T' L' h'=>h.facts.cx.least T' L' (h'.less hp)⟩
theorem shortOK (xs:List Int) (he:errB xs=0) (a:AV) (hc:CapU 1 a) (h:H) (wf:Wf h) (hs:Sl h a 1 xs.length (xs.map ii)) :
    ∃ T L M idx,Cpx (sq (bitL xs)) xs.length L∧T<2 ^ L∧L≤xs.length∧Makes T L (sq (bitL xs)) xs.length∧M[idx]? = some (.cells (zBz ((bitsL T L).map bi)) 3)∧(om Try.prog KK).call (.fn 25 [a]) h = .ok (.tup [.sl (nx h idx) 0 L (some L) 1,ii 0]) (X h M h.w):=by
  obtain ⟨hx1,hx2⟩:=xDy he
  have hxl:=zKw xs
  have hs':Sl h a 1 (bitL xs).length ((bitL xs).map bi):=by rw [zKw,← hx2];exact hs
  obtain ⟨f1,f2⟩:=zPz hs
  have c1 : ∀ (l:List AO) (w:Nat),w≤h.clock+l.length→(om Try.prog KK).call (.fn 18 [a]) (X h l w) = .ok (ii 0) (X h l w):=fun l w hw=>by rw [checkBits xs a _ (wf.X hw) (hs.up wf l w),he]
  obtain ⟨l,T,L,p,prof,v,M,idx,hch,hp,hm,hat,e⟩:=seek (bitL xs) (by omega) a hc (X h [] h.clock) (wf.X (by simp)) (hs'.up wf _ _)
  rw [X_X,X_w,List.nil_append] at e
  have hf:=hch.facts
  have hL:L≤xs.length:=by have:=hf.le;omega
  obtain ⟨fv1,fv2⟩:=zPz (hat.sl (wf.X (by simp)) h.clock)
  have c2 : ∀ (l:List AO) (w:Nat),w≤h.clock+l.length→(om Try.prog KK).call (.fn 50 [.agg [uu (T % 2 ^ 64),uu (T >>> 64),ii (L:Int)]]) (X h l w) = .ok (.sl (nx h (l.length+2)) 0 L (some L) 1) (X h (l++[.cells (zBz (rg T L)) 59,.cells (zBz (wd T)) 57,.cells (zBz ((bitsL T L).map bi)) 3]) w):=fun l w hw=>regList T L (by omega) h wf l w hw
  refine ⟨T,L,M++[.cells (zBz [uu (T % 2 ^ 64),uu (T >>> 64),ii (L:Int)]) 59,.cells (zBz (rg T L)) 59,.cells (zBz (wd T)) 57,.cells (zBz ((bitsL T L).map bi)) 3],M.length+3,by rw [← hxl];exact chain_cx hch hp hm,hf.lt,hL,by rw [← hxl];exact hm,by rw [xBv];rfl,?_⟩
  unfold rg at e
  refine zPv (zLw (fn:=Try.f25) Try.func25 rfl rfl rfl rfl rfl ?_)
  simp only [zLx]
  (repeat' (first
  | (with_reducible first|refine zJx ?_|refine zGw ?_|refine zFz ?_|refine zEv ?_|refine zFy ?_|refine zJw ?_|refine zGv ?_|refine zCz ?_|refine zDw ?_|refine zCy ?_|refine zCv ?_|refine zEx ?_|refine zDz ?_|refine zCx ?_|refine zBx ?_|refine zEz ?_|refine zEy ?_|refine zAw ?_|refine zBy ?_)
  | refine zDy ?_|refine zEw rfl ?_|refine zIv ?_|refine zJy ?_
  | ((first|refine zGx rfl rfl rfl rfl rfl fun K_ hK_=>?_|refine zGy rfl rfl rfl rfl rfl fun K_ hK_=>?_);simp only [zAz,zDx,zGz,↓reduceIte,reduceCtorEq,Nat.reduceEqDiff,Bool.not_true,Bool.not_false];refine hK_ _ ?_;clear hK_ K_)
  | refine zDv (by decide) ?_
  | ((try first|refine zKy rfl rfl rfl ?_|refine zIw rfl rfl ?_|refine zKx rfl rfl rfl ?_|refine zJz rfl rfl ?_);(refine zIx fun Q_ hQ_=>?_;simp (disch:=first|omega|(simp only [List.length_cons,List.length_nil,List.length_append];omega)) only [bb,bp,zLx,↓reduceIte,reduceCtorEq,Nat.reduceEqDiff,Nat.reduceLT,Nat.reduceLeDiff,Nat.reduceAdd,Nat.reduceMul,Nat.reduceSub,Nat.reduceBEq,Int.reduceToNat,cond_true,cond_false,eq_self,beq_self_eq_true,f1,f2,fv1,fv2,zFw wf,zHx wf,zBv wf,zFx wf,zAy wf,zAx,tEvZ17,zIy,zIz,zHv,zHw,zAv wf];first|(refine zCw (Q:=Q_) (fun hp_=>?_) (fun hp_=>?_) <;> first|(exfalso;omega)|(refine hQ_ _ _ ?_;clear hQ_ Q_))|(refine zBw (Q:=Q_) (fun hp_=>?_) (fun hp_=>?_) <;> first|(exfalso;omega)|(refine hQ_ _ _ ?_;clear hQ_ Q_))|(refine hQ_ _ _ ?_;clear hQ_ Q_)|(refine zKv (c1 _ _ (by first|omega|(simp only [List.length_append,List.length_cons,List.length_nil];omega))) ?_;refine hQ_ _ _ ?_;clear hQ_ Q_)|(refine zKv (e) ?_;refine hQ_ _ _ ?_;clear hQ_ Q_)|(refine zKv (c2 _ _ (by first|omega|(simp only [List.length_append,List.length_cons,List.length_nil];omega))) ?_;refine hQ_ _ _ ?_;clear hQ_ Q_)))
  | (refine zHz fun K_ hK_=>?_;simp (disch:=omega) only [zFv,zAz,zHy,↓reduceIte,reduceCtorEq,Nat.reduceEqDiff,Nat.reduceLT];refine hK_ _ ?_;clear hK_ K_)))
  refine zJv _ _ rfl (ret2 (by decide) (by decide)) ?_
  simp only [zAz,↓reduceIte,reduceCtorEq,Nat.reduceEqDiff]
  simp only [List.append_assoc,List.cons_append,List.nil_append,List.length_append,List.length_cons,List.length_nil,Nat.add_assoc,Nat.zero_add,Nat.reduceAdd]
  refine xTz wf (by omega) (fun hfl=>absurd (show false=true from hfl) (by decide)) (fun _=>?_)
  exact ⟨rfl,rfl⟩
def tapI (T L:Nat):List Int:=(bitsL T L).map (fun b=>((b.toNat:Nat):Int))
theorem xHv (T L:Nat):(tapI T L).length=L:=by unfold tapI;rw [List.length_map,yVw]
theorem tapI_bits (T L:Nat):(tapI T L).map ii=(bitsL T L).map bi:=map_bi _
theorem tapI_bitL (T L:Nat):bitL (tapI T L)=bitsL T L:=by
  unfold bitL tapI
  rw [List.map_map]
  have:((fun x:Int=>x == 1) ∘ fun b:Bool=>((b.toNat:Nat):Int))=id:=by
    funext b;cases b <;> rfl
  rw [this,List.map_id]
theorem tapI_good (T L:Nat):good (tapI T L)=true:=by
  unfold good tapI
  rw [List.all_map]
  refine List.all_eq_true.2 fun b _=>?_
  cases b <;> rfl
theorem bN_bitsL {T L:Nat} (h:T<2 ^ L):bN (bitsL T L)=T:=by
  apply Nat.eq_of_testBit_eq;intro i
  rw [bN_bit]
  unfold bitsL
  rw [List.getD_eq_getElem?_getD,List.getElem?_map]
  by_cases hi:i<L
  · rw [List.getElem?_range hi];rfl
  · rw [List.getElem?_eq_none (by simp;omega),bit_high h (by omega)];rfl
theorem fine (xs:List Int) (a:AV) (h:H) (wf:Wf h) (hs:Sl h a 1 xs.length (xs.map ii)):(om Try.prog KK).call (.fn 37 [a]) h = .ok (.bool (decide (errB xs=0))) h:=by
  obtain ⟨f1,f2⟩:=zPz hs
  have c1 : ∀ (l:List AO) (w:Nat),w≤h.clock+l.length→(om Try.prog KK).call (.fn 19 [a]) (X h l w) = .ok (ii (errB xs)) (X h l w):=fun l w hw=>rcheckBits xs a _ (wf.X hw) (hs.up wf l w)
  generalize errB xs=e at *
  refine zPv (zLw (fn:=Try.f37) Try.func37 rfl rfl rfl rfl rfl ?_)
  simp only [zLx]
  (repeat' (first
  | (with_reducible first|refine zJx ?_|refine zGw ?_|refine zFz ?_|refine zEv ?_|refine zFy ?_|refine zJw ?_|refine zGv ?_|refine zCz ?_|refine zDw ?_|refine zCy ?_|refine zCv ?_|refine zEx ?_|refine zDz ?_|refine zCx ?_|refine zBx ?_|refine zEz ?_|refine zEy ?_|refine zAw ?_|refine zBy ?_)
  | refine zDy ?_|refine zEw rfl ?_|refine zIv ?_|refine zJy ?_
  | ((first|refine zGx rfl rfl rfl rfl rfl fun K_ hK_=>?_|refine zGy rfl rfl rfl rfl rfl fun K_ hK_=>?_);simp only [zAz,zDx,zGz,↓reduceIte,reduceCtorEq,Nat.reduceEqDiff,Bool.not_true,Bool.not_false];refine hK_ _ ?_;clear hK_ K_)
  | refine zDv (by decide) ?_
  | ((try first|refine zKy rfl rfl rfl ?_|refine zIw rfl rfl ?_|refine zKx rfl rfl rfl ?_|refine zJz rfl rfl ?_);(refine zIx fun Q_ hQ_=>?_;simp (disch:=first|omega|(simp only [List.length_cons,List.length_nil,List.length_append];omega)) only [bb,bp,zLx,↓reduceIte,reduceCtorEq,Nat.reduceEqDiff,Nat.reduceLT,Nat.reduceLeDiff,Nat.reduceAdd,Nat.reduceMul,Nat.reduceSub,Nat.reduceBEq,Int.reduceToNat,cond_true,cond_false,eq_self,beq_self_eq_true,f1,f2,zFw wf,zHx wf,zBv wf,zFx wf,zAy wf,zAx,tEvZ17,zIy,zIz,zHv,zHw,zAv wf];first|(refine zCw (Q:=Q_) (fun hp_=>?_) (fun hp_=>?_) <;> first|(exfalso;omega)|(refine hQ_ _ _ ?_;clear hQ_ Q_))|(refine zBw (Q:=Q_) (fun hp_=>?_) (fun hp_=>?_) <;> first|(exfalso;omega)|(refine hQ_ _ _ ?_;clear hQ_ Q_))|(refine hQ_ _ _ ?_;clear hQ_ Q_)|(refine zKv (c1 _ _ (by first|omega|(simp only [List.length_append,List.length_cons,List.length_nil];omega))) ?_;refine hQ_ _ _ ?_;clear hQ_ Q_)))
  | (refine zHz fun K_ hK_=>?_;simp (disch:=omega) only [zFv,zAz,zHy,↓reduceIte,reduceCtorEq,Nat.reduceEqDiff,Nat.reduceLT];refine hK_ _ ?_;clear hK_ K_)))
  all_goals (refine zJv _ _ rfl (ret1 (by decide)) ?_;simp only [zAz,↓reduceIte,reduceCtorEq,Nat.reduceEqDiff];refine zLz rfl (by omega) ?_)
  all_goals exact ⟨by simp [*],rfl⟩
theorem short_any (xs:List Int) (he:errB xs=0) (a:AV) (hc:CapU 1 a) (h:H) (wf:Wf h) (hs:Sl h a 1 xs.length (xs.map ii)) :
    ∃ T L M v,Cpx (sq (bitL xs)) xs.length L∧T<2 ^ L∧L≤xs.length∧Makes T L (sq (bitL xs)) xs.length∧Capd v∧(∀ J w,Sl (X h (M++J) w) v 1 (tapI T L).length ((tapI T L).map ii))∧(om Try.prog KK).call (.fn 25 [a]) h = .ok (.tup [v,ii 0]) (X h M h.w):=by
  obtain ⟨T,L,M,idx,h1,h2,h3,h4,h5,e⟩:=shortOK xs he a hc h wf hs
  refine ⟨T,L,M,_,h1,h2,h3,h4,capd_sl (Nat.le_refl _),fun J w=>?_,e⟩
  rw [xHv,tapI_bits]
  exact Sl.new wf (by rw [List.length_map,yVw,Nat.mul_one]) (by rw [List.getElem?_append_left (zOw h5)];exact h5)
end Go.Proofs.Ytmincoafjnnkpaa
end

section
namespace Go.Proofs.Ytmincoafjnnkpaa
open Go.Ev
set_option maxRecDepth 100000
set_option linter.unusedSimpArgs false
set_option linter.unusedVariables false
set_option maxHeartbeats 2000000
def addI (xs ys:List Int):List Int:=(List.range (min xs.length ys.length)).map fun i=>((((sq (bitL xs) i ^^ sq (bitL ys) i).toNat:Nat)):Int)
def addN (xs ys:List Int) (n:Nat):List AV:=(List.range n).map fun i=>bi (sq (bitL xs) i ^^ sq (bitL ys) i)
theorem xLv {T L n:Nat} {s t:Nat→Bool} (h:Makes T L s n) (e : ∀ i,i<n→s i=t i):Makes T L t n:=fun i h1 h2=>by
  rw [← e i h2,h i h1 h2]
  exact yUv h1 fun j hj=>e j (by omega)
end Go.Proofs.Ytmincoafjnnkpaa
end

section
namespace Go.Proofs.Ytmincoafjnnkpaa
open Go.Ev
set_option maxRecDepth 100000
set_option linter.unusedSimpArgs false
set_option linter.unusedVariables false
set_option maxHeartbeats 2000000
theorem regE_zero {bs ts:List Bool} : regE bs ts=0 ↔ Makes (bN ts) ts.length (sq bs) bs.length:=by
  unfold regE
  rw [← zRz]
  cases makesB (bN ts) ts.length (sq bs) bs.length <;> simp
theorem errReg_ok {xs ys:List Int} (hx:errB xs=0) (hy:errB ys=0):errReg xs ys=regE (bitL xs) (bitL ys):=by
  unfold errReg err2
  rw [if_pos hx,hy,if_pos rfl]
theorem errB_tapI {T L:Nat} (h:L≤128):errB (tapI T L)=0:=xMw.2 ⟨by rw [xHv];exact h,tapI_good T L⟩
end Go.Proofs.Ytmincoafjnnkpaa
end

section
namespace Go.Proofs.Ytmincoafjnnkpaa
open Go.Ev
set_option maxRecDepth 100000
set_option linter.unusedSimpArgs false
set_option linter.unusedVariables false
set_option maxHeartbeats 2000000
theorem tEvZ20 :type_of% (And.intro (And.intro (And.intro (And.intro (And.intro (And.intro (And.intro (@yQv) (@yQw)) (And.intro (@yQx) (@yQy))) (And.intro (And.intro (@yQz) (@yPv)) (And.intro (@ia_2) (And.intro (@ia_3) (@ia_4))))) (And.intro (And.intro (And.intro (@ia_5) (@yPw)) (And.intro (@yPx) (@yPy))) (And.intro (And.intro (@yPz) (@yOv)) (And.intro (@yOw) (And.intro (@zSz) (@yOx)))))) (And.intro (And.intro (And.intro (And.intro (@yOy) (@yOz)) (And.intro (@yNv) (@yNw))) (And.intro (And.intro (@yNx) (@yNy)) (And.intro (@yNz) (And.intro (@yMv) (@sz_2))))) (And.intro (And.intro (And.intro (@sz_3) (@sz_4)) (And.intro (@sz_5) (And.intro (@zYv) (@zYw)))) (And.intro (And.intro (@zYx) (@zYy)) (And.intro (@zYz) (And.intro (@zXv) (@zRx))))))) (And.intro (And.intro (And.intro (And.intro (And.intro (@zXw) (@zXx)) (And.intro (@zXy) (@zQy))) (And.intro (And.intro (@zXz) (@zWv)) (And.intro (@zWw) (And.intro (@zWx) (@zWy))))) (And.intro (And.intro (And.intro (@ze_2) (@ze_3)) (And.intro (@ze_4) (And.intro (@ze_5) (@zWz)))) (And.intro (And.intro (@zVv) (@zVw)) (And.intro (@zVx) (And.intro (@zVy) (@zVz)))))) (And.intro (And.intro (And.intro (And.intro (@zUv) (@zUw)) (And.intro (@zUx) (@zUy))) (And.intro (And.intro (@zUz) (@zTv)) (And.intro (@zTw) (And.intro (@zTx) (@zTy))))) (And.intro (And.intro (And.intro (@zNv) (@zNw)) (And.intro (@zNx) (And.intro (@zNy) (@zNz)))) (And.intro (And.intro (@zMv) (@zMw)) (And.intro (@zMx) (And.intro (@zMy) (@yMy)))))))) (And.intro (And.intro (And.intro (And.intro (And.intro (And.intro (@yMz) (@yLv)) (And.intro (@yLw) (@yLx))) (And.intro (And.intro (@yLy) (@yLz)) (And.intro (@yKv) (And.intro (@yKw) (@yKx))))) (And.intro (And.intro (And.intro (@yKy) (@yKz)) (And.intro (@yJv) (@yJw))) (And.intro (And.intro (@yJx) (@yJy)) (And.intro (@yJz) (And.intro (@yIv) (@yIw)))))) (And.intro (And.intro (And.intro (And.intro (@yIx) (@yIy)) (And.intro (@yIz) (@yHv))) (And.intro (And.intro (@yHw) (@yHx)) (And.intro (@yHy) (And.intro (@yHz) (@yGv))))) (And.intro (And.intro (And.intro (@yGw) (@yGx)) (And.intro (@yGy) (And.intro (@yGz) (@yFv)))) (And.intro (And.intro (@yFw) (@yFx)) (And.intro (@yFy) (And.intro (@yFz) (@yEv))))))) (And.intro (And.intro (And.intro (And.intro (And.intro (@yEw) (@yEx)) (And.intro (@yEy) (@yEz))) (And.intro (And.intro (@yDv) (@yDw)) (And.intro (@yDx) (And.intro (@yDy) (@yDz))))) (And.intro (And.intro (And.intro (@yCv) (@yCw)) (And.intro (@yCx) (And.intro (@yCy) (@yCz)))) (And.intro (And.intro (@zSx) (@yBv)) (And.intro (@yBw) (And.intro (@yBx) (@yBy)))))) (And.intro (And.intro (And.intro (And.intro (@yBz) (@yAv)) (And.intro (@yAw) (@yAx))) (And.intro (And.intro (@yAy) (@yAz)) (And.intro (@zZv) (And.intro (@zZw) (@zZx))))) (And.intro (And.intro (And.intro (@zZy) (@zZz)) (And.intro (@zQz) (And.intro (@yMw) (@zTz)))) (And.intro (And.intro (@zQv) (@zSv)) (And.intro (@zSw) (And.intro (@yMx) (@zRv))))))))):=And.intro (And.intro (And.intro (And.intro (And.intro (And.intro (And.intro (@yQv) (@yQw)) (And.intro (@yQx) (@yQy))) (And.intro (And.intro (@yQz) (@yPv)) (And.intro (@ia_2) (And.intro (@ia_3) (@ia_4))))) (And.intro (And.intro (And.intro (@ia_5) (@yPw)) (And.intro (@yPx) (@yPy))) (And.intro (And.intro (@yPz) (@yOv)) (And.intro (@yOw) (And.intro (@zSz) (@yOx)))))) (And.intro (And.intro (And.intro (And.intro (@yOy) (@yOz)) (And.intro (@yNv) (@yNw))) (And.intro (And.intro (@yNx) (@yNy)) (And.intro (@yNz) (And.intro (@yMv) (@sz_2))))) (And.intro (And.intro (And.intro (@sz_3) (@sz_4)) (And.intro (@sz_5) (And.intro (@zYv) (@zYw)))) (And.intro (And.intro (@zYx) (@zYy)) (And.intro (@zYz) (And.intro (@zXv) (@zRx))))))) (And.intro (And.intro (And.intro (And.intro (And.intro (@zXw) (@zXx)) (And.intro (@zXy) (@zQy))) (And.intro (And.intro (@zXz) (@zWv)) (And.intro (@zWw) (And.intro (@zWx) (@zWy))))) (And.intro (And.intro (And.intro (@ze_2) (@ze_3)) (And.intro (@ze_4) (And.intro (@ze_5) (@zWz)))) (And.intro (And.intro (@zVv) (@zVw)) (And.intro (@zVx) (And.intro (@zVy) (@zVz)))))) (And.intro (And.intro (And.intro (And.intro (@zUv) (@zUw)) (And.intro (@zUx) (@zUy))) (And.intro (And.intro (@zUz) (@zTv)) (And.intro (@zTw) (And.intro (@zTx) (@zTy))))) (And.intro (And.intro (And.intro (@zNv) (@zNw)) (And.intro (@zNx) (And.intro (@zNy) (@zNz)))) (And.intro (And.intro (@zMv) (@zMw)) (And.intro (@zMx) (And.intro (@zMy) (@yMy)))))))) (And.intro (And.intro (And.intro (And.intro (And.intro (And.intro (@yMz) (@yLv)) (And.intro (@yLw) (@yLx))) (And.intro (And.intro (@yLy) (@yLz)) (And.intro (@yKv) (And.intro (@yKw) (@yKx))))) (And.intro (And.intro (And.intro (@yKy) (@yKz)) (And.intro (@yJv) (@yJw))) (And.intro (And.intro (@yJx) (@yJy)) (And.intro (@yJz) (And.intro (@yIv) (@yIw)))))) (And.intro (And.intro (And.intro (And.intro (@yIx) (@yIy)) (And.intro (@yIz) (@yHv))) (And.intro (And.intro (@yHw) (@yHx)) (And.intro (@yHy) (And.intro (@yHz) (@yGv))))) (And.intro (And.intro (And.intro (@yGw) (@yGx)) (And.intro (@yGy) (And.intro (@yGz) (@yFv)))) (And.intro (And.intro (@yFw) (@yFx)) (And.intro (@yFy) (And.intro (@yFz) (@yEv))))))) (And.intro (And.intro (And.intro (And.intro (And.intro (@yEw) (@yEx)) (And.intro (@yEy) (@yEz))) (And.intro (And.intro (@yDv) (@yDw)) (And.intro (@yDx) (And.intro (@yDy) (@yDz))))) (And.intro (And.intro (And.intro (@yCv) (@yCw)) (And.intro (@yCx) (And.intro (@yCy) (@yCz)))) (And.intro (And.intro (@zSx) (@yBv)) (And.intro (@yBw) (And.intro (@yBx) (@yBy)))))) (And.intro (And.intro (And.intro (And.intro (@yBz) (@yAv)) (And.intro (@yAw) (@yAx))) (And.intro (And.intro (@yAy) (@yAz)) (And.intro (@zZv) (And.intro (@zZw) (@zZx))))) (And.intro (And.intro (And.intro (@zZy) (@zZz)) (And.intro (@zQz) (And.intro (@yMw) (@zTz)))) (And.intro (And.intro (@zQv) (@zSv)) (And.intro (@zSw) (And.intro (@yMx) (@zRv))))))))
def profOf (l:List Att):List Nat:=l.foldl (fun P a=>P++List.replicate ((a.at_+1).toNat - P.length) a.L) []
theorem xEw (l:List Att) (a:Att):profOf (l++[a])=profOf l++List.replicate ((a.at_+1).toNat - (profOf l).length) a.L:=by unfold profOf;rw [List.foldl_append];rfl
theorem chain_prof {s:Nat→Bool} {l:List Att} {T L p:Nat} {prof:List Nat} (h:Chain s l T L p prof):profOf l=prof:=by
  induction h with
  | nil=>rfl
  | @snoc l T L p q prof hc hpq w hq ih=>
    rw [xEw,ih,hc.facts.len]
    congr 2
theorem chain_max {s:Nat→Bool} {l:List Att} {T L p q:Nat} {prof:List Nat} (h:Chain s l T L p prof) (hpq:p≤q) (w:Wrong T L s q):max L ((bestA l).L+((q:Int) - (bestA l).at_).toNat)=max L (q+1 - L):=by
  obtain ⟨ne,lt,le,p_le,cx,makes,best,by_,len,prof_,mono⟩:=h.facts
  have hbB:(bestA l).bound=(bestA l).at_+1 - ((bestA l).L:Int):=rfl
  have hlq:=w.le
  have:(bestA l).at_<(q:Int):=by
    rcases by_ with h|⟨_,q',h,h2,_⟩
    · rw [h];show (-1:Int)<_;omega
    · omega
  omega
def Jumps (P:List Nat):Prop:=∀ (k u v:Nat),P[k]? = some u→P[k+1]? = some v→v=u∨v+u=k+1
theorem chain_jumps {s:Nat→Bool} {l:List Att} {T L p:Nat} {prof:List Nat} (h:Chain s l T L p prof):Jumps prof ∧ ∀ u,0<p→prof[p - 1]? = some u→L=u∨L+u=p:=by
  induction h with
  | nil=>exact ⟨fun k u v h=>by simp at h,fun u h=>by omega⟩
  | @snoc l T L p q prof hc hpq w hq ih=>
    have hmx:=chain_max hc hpq w
    have hlen:=hc.facts.len
    obtain ⟨j1,j2⟩:=ih
    have hget : ∀ k,p≤k → ∀ v,(prof++List.replicate (q+1 - p) L)[k]? = some v→v=L:=fun k hk v hv=>by
      rw [List.getElem?_append_right (by omega),List.getElem?_replicate] at hv
      split at hv
      · cases hv;rfl
      · cases hv
    have hlow : ∀ k,k<p→(prof++List.replicate (q+1 - p) L)[k]? = prof[k]?:=fun k hk=>List.getElem?_append_left (by omega)
    refine ⟨fun k u v hu hv=>?_,fun u _ hu=>?_⟩
    · by_cases h1:k+1<p
      · rw [hlow _ (by omega)] at hu
        rw [hlow _ h1] at hv
        exact j1 k u v hu hv
      · have hv2:=hget (k+1) (by omega) v hv
        by_cases h2:k<p
        · rw [hlow _ h2] at hu
          have h3:k=p - 1:=by omega
          rw [h3] at hu
          rcases j2 u (by omega) hu with h|h
          · exact .inl (by omega)
          · exact .inr (by omega)
        · have hu2:=hget k (by omega) u hu
          exact .inl (by omega)
    · have:=hget (q+1 - 1) (by omega) u hu
      have hlq:=w.le
      rw [hmx]
      omega
structure ProfOK (s:Nat→Bool) (n:Nat) (F:List Nat):Prop where
  len:F.length=n+1
  cx : ∀ k,k≤n → ∃ Lk:Nat,F[k]? = some Lk∧Cpx s k Lk
  jumps:Jumps F
  le : ∀ (k u:Nat),F[k]? = some u→u≤n
theorem prof_ok {s:Nat→Bool} {l:List Att} {T L p n:Nat} {prof:List Nat} (h:Chain s l T L p prof) (hp:p≤n) (hm:Makes T L s n):profOf (l++[⟨T,L,(n:Int)⟩])=prof++List.replicate (n+1 - p) L∧ProfOK s n (prof++List.replicate (n+1 - p) L):=by
  have hf:=h.facts
  have hlen:=hf.len
  obtain ⟨j1,j2⟩:=chain_jumps h
  have hLn:L≤n:=by have:=hf.le;omega
  have hget : ∀ k,p≤k → ∀ v,(prof++List.replicate (n+1 - p) L)[k]? = some v→v=L:=fun k hk v hv=>by
    rw [List.getElem?_append_right (by omega),List.getElem?_replicate] at hv
    split at hv
    · cases hv;rfl
    · cases hv
  have hlow : ∀ k,k<p→(prof++List.replicate (n+1 - p) L)[k]? = prof[k]?:=fun k hk=>List.getElem?_append_left (by omega)
  refine ⟨?_,by rw [List.length_append,List.length_replicate];omega,fun k hk=>?_,fun k u v hu hv=>?_,fun k u hu=>?_⟩
  · rw [xEw,chain_prof h,hlen]
    congr 2
  · by_cases h1:k<p
    · rw [hlow k h1];exact hf.prof_ k h1
    · exact ⟨L,by rw [List.getElem?_append_right (by omega),List.getElem?_replicate,if_pos (by omega)],⟨⟨T,hf.lt,hm.less hk⟩,fun T' L' h'=>hf.cx.least T' L' (h'.less (by omega))⟩⟩
  · by_cases h1:k+1<p
    · rw [hlow _ (by omega)] at hu
      rw [hlow _ h1] at hv
      exact j1 k u v hu hv
    · have hv2:=hget (k+1) (by omega) v hv
      by_cases h2:k<p
      · rw [hlow _ h2] at hu
        have h3:k=p - 1:=by omega
        rw [h3] at hu
        rcases j2 u (by omega) hu with h|h
        · exact .inl (by omega)
        · exact .inr (by omega)
      · have hu2:=hget k (by omega) u hu
        exact .inl (by omega)
  · by_cases h1:k<p
    · rw [hlow k h1] at hu
      have:=hf.mono k u hu
      omega
    · have:=hget k (by omega) u hu
      omega
theorem AttsAt.get {h:H} (wf:Wf h) {M:List AO} {idx:Nat} {l:List Att} {v:AV} (x:AttsAt h M idx l v) {i:Nat} (hi:i<l.length):indexAddrE Try.prog 63 v (.int .i64 (i:Int))=some (.ptr (nx h idx) (i * 4)) ∧ ∀ J w,loadAgg (nx h idx) (i * 4) (some 4) (X h (M++J) w)=some (.agg (attC l[i])):=by
  have hia:indexAddrE Try.prog 63 v (.int .i64 (i:Int))=some (.ptr (nx h idx) (i * 4)):=by
    obtain ⟨cap,rfl,_,_⟩:=x
    have ht:toNatE (.int .i64 (i:Int))=some i:=by rw [xCx (by omega),Int.toNat_natCast]
    simp only [yTx,ht,zQv,yXw hi,Nat.zero_add]
  refine ⟨hia,fun J w=>?_⟩
  obtain ⟨id,off,hix,hld⟩:=((x.more J).sl wf h.clock).at (wf.X (by omega)) hi zQv
  rw [hia] at hix
  cases hix
  have h1:=(hld [] w).2
  rw [X_X,List.append_nil,flat_at yZx hi] at h1
  exact h1
abbrev ni (k:Nat):AV:=ii (k:Int)
theorem profile (xs:List Int) (he:errB xs=0) (a:AV) (hc:CapU 1 a) (h:H) (wf:Wf h) (hs:Sl h a 1 xs.length (xs.map ii)) :
    ∃ F v M,ProfOK (sq (bitL xs)) xs.length F∧CapU 1 v∧(∀ J w,Sl (X h (M++J) w) v 1 F.length (F.map ni))∧(om Try.prog KK).call (.fn 23 [a]) h = .ok (.tup [v,ii 0]) (X h M h.w):=by
  suffices hW:WV ((om Try.prog KK).call (.fn 23 [a]) h) fun r h'=>∃ F v M,ProfOK (sq (bitL xs)) xs.length F∧CapU 1 v∧(∀ J w,Sl (X h (M++J) w) v 1 F.length (F.map ni))∧r = .tup [v,ii 0]∧h'=X h M h.w by
    obtain ⟨r,h',e,F,v,M,h1,h2,h3,rfl,rfl⟩:=hW
    exact ⟨F,v,M,h1,h2,h3,e⟩
  obtain ⟨hx1,hx2⟩:=xDy he
  have hxl:=zKw xs
  have hs':Sl h a 1 (bitL xs).length ((bitL xs).map bi):=by rw [zKw,← hx2];exact hs
  have hl : ∀ h',lenE Try.prog 22 a h'=some (ii (xs.length:Int)):=fun h'=>hs.len yRw
  obtain ⟨f1,f2⟩:=zPz hs
  have c1 : ∀ (l:List AO) (w:Nat),w≤h.clock+l.length→(om Try.prog KK).call (.fn 18 [a]) (X h l w) = .ok (ii 0) (X h l w):=fun l w hw=>by rw [checkBits xs a _ (wf.X hw) (hs.up wf l w),he]
  obtain ⟨l,T,L,p,prof,v,M,idx,hch,hp,hm,hat,e⟩:=seek (bitL xs) (by omega) a hc (X h [] h.clock) (wf.X (by simp)) (hs'.up wf _ _)
  rw [X_X,X_w,List.nil_append] at e
  rw [hxl] at hp hm
  have hf:=hch.facts
  obtain ⟨hok,hln⟩:=chain_ok hch
  have hL:L≤xs.length:=by have:=hf.le;omega
  obtain ⟨hpe,hpo⟩:=prof_ok hch hp hm
  obtain ⟨fv1,fv2⟩:=zPz (hat.sl (wf.X (by simp)) h.clock)
  have hat0:AttsAt h (M++[.cells (zBz [uu (T % 2 ^ 64),uu (T >>> 64),ii (L:Int)]) 59]) idx l v:=by
    obtain ⟨cap,hve,hM,hcap⟩:=hat.more [.cells (zBz [uu (T % 2 ^ 64),uu (T >>> 64),ii (L:Int)]) 59]
    exact ⟨cap,by rw [hve,nx_X];rw [List.length_nil,Nat.zero_add],hM,hcap⟩
  obtain ⟨v',M',hat',hlen',hkeep,happ⟩:=hat0.app wf ⟨T,L,(xs.length:Int)⟩ (by omega)
  generalize hlst:l++[(⟨T,L,(xs.length:Int)⟩:Att)]=lst at *
  obtain ⟨w',hw1,hw2,happ⟩:=happ h.clock
  have hwe:w'=h.clock:=by omega
  subst hwe
  obtain ⟨fw1,fw2⟩:=zPz (hat'.sl wf h.clock)
  unfold attC at happ
  simp only [List.append_assoc,List.cons_append,List.nil_append,List.length_append,List.length_cons,List.length_nil,Nat.zero_add] at happ
  have hrz : ∀ id off l c esz,reszT Try.prog 63 (.sl id off l (some c) esz) = .sl id off l (some c) 4:=fun _ _ _ _ _=>yXz un_63 zQy
  have hrz2 : ∀ id off l c esz,reszT Try.prog 22 (.sl id off l (some c) esz) = .sl id off l (some c) 1:=fun _ _ _ _ _=>yXz yRw sz_3
  have hlv : ∀ h',lenE Try.prog 63 v' h'=some (ii (lst.length:Int)):=fun h'=>(hat'.sl wf h.clock).len un_63
  unfold rg at e
  refine zLw (fn:=Try.f23) Try.func23 rfl rfl rfl rfl rfl ?_
  simp only [zLx]
  (repeat' (first
  | (with_reducible first|refine zJx ?_|refine zGw ?_|refine zFz ?_|refine zEv ?_|refine zFy ?_|refine zJw ?_|refine zGv ?_|refine zCz ?_|refine zDw ?_|refine zCy ?_|refine zCv ?_|refine zEx ?_|refine zDz ?_|refine zCx ?_|refine zBx ?_|refine zEz ?_|refine zEy ?_|refine zAw ?_|refine zBy ?_)
  | refine zDy ?_|refine zEw rfl ?_|refine zIv ?_|refine zJy ?_
  | ((first|refine zGx rfl rfl rfl rfl rfl fun K_ hK_=>?_|refine zGy rfl rfl rfl rfl rfl fun K_ hK_=>?_);simp only [zAz,zDx,zGz,↓reduceIte,reduceCtorEq,Nat.reduceEqDiff,Bool.not_true,Bool.not_false];refine hK_ _ ?_;clear hK_ K_)
  | refine zDv (by decide) ?_
  | ((try first|refine zKy rfl rfl rfl ?_|refine zIw rfl rfl ?_|refine zKx rfl rfl rfl ?_|refine zJz rfl rfl ?_);(refine zIx fun Q_ hQ_=>?_;simp (disch:=first|omega|(simp only [List.length_cons,List.length_nil,List.length_append];omega)) only [bb,bp,zLx,↓reduceIte,reduceCtorEq,Nat.reduceEqDiff,Nat.reduceLT,Nat.reduceLeDiff,Nat.reduceAdd,Nat.reduceMul,Nat.reduceSub,Nat.reduceBEq,Int.reduceToNat,cond_true,cond_false,eq_self,beq_self_eq_true,hl,hlv,f1,f2,fv1,fv2,fw1,fw2,happ,hrz,zRv,zFw wf,zHx wf,zBv wf,zFx wf,zAy wf,zAx,tEvZ20,zIy,zIz,zHv,zHw,zAv wf];first|(refine zCw (Q:=Q_) (fun hp_=>?_) (fun hp_=>?_) <;> first|(exfalso;omega)|(refine hQ_ _ _ ?_;clear hQ_ Q_))|(refine zBw (Q:=Q_) (fun hp_=>?_) (fun hp_=>?_) <;> first|(exfalso;omega)|(refine hQ_ _ _ ?_;clear hQ_ Q_))|(refine hQ_ _ _ ?_;clear hQ_ Q_)|(refine zKv (c1 _ _ (by first|omega|(simp only [List.length_append,List.length_cons,List.length_nil];omega))) ?_;refine hQ_ _ _ ?_;clear hQ_ Q_)|(refine zKv (e) ?_;refine hQ_ _ _ ?_;clear hQ_ Q_)))
  | (refine zHz fun K_ hK_=>?_;simp (disch:=omega) only [zFv,zAz,zHy,↓reduceIte,reduceCtorEq,Nat.reduceEqDiff,Nat.reduceLT];refine hK_ _ ?_;clear hK_ K_)))
  have hsl':=fun G w=>(hat'.more G).sl wf w
  have hin : ∀ (k:Nat),oneB (ni k)=true:=fun _=>rfl
  have hokl : ∀ x ∈ lst,OkA x:=by
    rw [← hlst]
    intro x hx
    rcases List.mem_append.1 hx with h|h
    · exact hok x h
    · rw [List.mem_singleton.1 h]
      exact ⟨⟨by show (-1:Int)≤(xs.length:Int);omega,by show (xs.length:Int)≤128;omega⟩,by show L≤128;omega⟩
  have hlstn:lst.length≤200:=by rw [← hlst,List.length_append];simp;have:=hf.p_le;omega
  have hPl : ∀ i,(profOf (lst.take i)).length≤129:=fun i=>by
    induction i with
    | zero=>rw [List.take_zero];exact Nat.zero_le _
    | succ i ih=>
      by_cases hi:i<lst.length
      · rw [List.take_succ_eq_append_getElem hi,xEw,List.length_append,List.length_replicate]
        have:=(hokl _ (List.getElem_mem hi)).1.2
        omega
      · rw [List.take_of_length_le (by omega)];rw [List.take_of_length_le (by omega)] at ih;exact ih
  refine zQw (α:=Nat) (fun (i:Nat) f d h'=>i≤lst.length∧f 26=v'∧f 27=ii (lst.length:Int)∧f 28=ii (i:Int)∧d=[] ∧
    ∃ pv G w,f 7=pv∧Grow h M' G pv 1 3 (profOf (lst.take i)).length ((profOf (lst.take i)).map ni)∧h.clock≤w∧h'=X h (M'++G) w) (fun i=>lst.length - i) ?_ (lst.length+1) 0 (by omega) ?_
  · rintro i f d h' ⟨hi,g26,g27,g28,rfl,pv,G,w,g7,hg,hw,rfl⟩
    obtain ⟨fp1,fp2⟩:=hg.flat
    by_cases hlt:i<lst.length
    · obtain ⟨hix,hld⟩:=hat'.get wf hlt
      have hPi:=hPl i
      have e1:profOf (lst.take (i+1))=profOf (lst.take i)++List.replicate ((lst[i].at_+1).toNat - (profOf (lst.take i)).length) lst[i].L:=by rw [List.take_succ_eq_append_getElem hlt,xEw]
      have hxok:=hokl _ (List.getElem_mem hlt)
      generalize hP:profOf (lst.take i)=P at *
      generalize hxe:lst[i]=x at *
      obtain ⟨⟨ho1,ho2⟩,ho3⟩:=hxok
      unfold attC at hld
      generalize hid:nx h (M.length+2)=idv at *
      generalize nx h ((M++[AO.cells (zBz [uu (T % 2 ^ 64),uu (T >>> 64),ii (L:Int)]) 59]).length+1)=ida at *
      (repeat' (first
  | (with_reducible first|refine zJx ?_|refine zGw ?_|refine zFz ?_|refine zEv ?_|refine zFy ?_|refine zJw ?_|refine zGv ?_|refine zCz ?_|refine zDw ?_|refine zCy ?_|refine zCv ?_|refine zEx ?_|refine zDz ?_|refine zCx ?_|refine zBx ?_|refine zEz ?_|refine zEy ?_|refine zAw ?_|refine zBy ?_)
  | refine zDy ?_|refine zEw rfl ?_|refine zIv ?_|refine zJy ?_
  | ((first|refine zGx rfl rfl rfl rfl rfl fun K_ hK_=>?_|refine zGy rfl rfl rfl rfl rfl fun K_ hK_=>?_);simp only [zAz,zDx,zGz,↓reduceIte,reduceCtorEq,Nat.reduceEqDiff,Bool.not_true,Bool.not_false];refine hK_ _ ?_;clear hK_ K_)
  | refine zDv (by decide) ?_
  | ((try first|refine zKy rfl rfl rfl ?_|refine zIw rfl rfl ?_|refine zKx rfl rfl rfl ?_|refine zJz rfl rfl ?_);(refine zIx fun Q_ hQ_=>?_;simp (disch:=first|omega|(simp only [List.length_cons,List.length_nil,List.length_append];omega)) only [bb,bp,zLx,↓reduceIte,reduceCtorEq,Nat.reduceEqDiff,Nat.reduceLT,Nat.reduceLeDiff,Nat.reduceAdd,Nat.reduceMul,Nat.reduceSub,Nat.reduceBEq,Int.reduceToNat,cond_true,cond_false,eq_self,beq_self_eq_true,hl,hlv,f1,f2,fw1,fw2,fp1,fp2,g7,g26,g27,g28,hix,hld,zFw wf,zHx wf,zBv wf,zFx wf,zAy wf,zAx,tEvZ20,zIy,zIz,zHv,zHw,zAv wf];first|(refine zCw (Q:=Q_) (fun hp_=>?_) (fun hp_=>?_) <;> first|(exfalso;omega)|(refine hQ_ _ _ ?_;clear hQ_ Q_))|(refine zBw (Q:=Q_) (fun hp_=>?_) (fun hp_=>?_) <;> first|(exfalso;omega)|(refine hQ_ _ _ ?_;clear hQ_ Q_))|(refine hQ_ _ _ ?_;clear hQ_ Q_)))
  | (refine zHz fun K_ hK_=>?_;simp (disch:=omega) only [zFv,zAz,zHy,↓reduceIte,reduceCtorEq,Nat.reduceEqDiff,Nat.reduceLT];refine hK_ _ ?_;clear hK_ K_)))
      have lx : ∀ {G':List AO},G'[G.length]? = some (.cells (zBz [uu (x.T % 2 ^ 64),uu (x.T >>> 64),ii (x.L:Int),ii x.at_]) 67) → ∀ J w,load1 (nx h (M'.length+G.length)) 3 (X h (M'++(G'++J)) w)=some (ii x.at_)∧load1 (nx h (M'.length+G.length)) 2 (X h (M'++(G'++J)) w)=some (ii (x.L:Int)):=fun {G'} hG J w=>by
        rw [zHx wf,zHx wf,xBv,List.getElem?_append_left (zOw hG),hG]
        exact ⟨rfl,rfl⟩
      refine zQw (α:=Nat) (fun (c:Nat) f d h'=>P.length+c≤max P.length (x.at_+1).toNat∧f 9 = .ptr (nx h (M'.length+G.length)) 0∧f 26=v'∧f 27=ii (lst.length:Int)∧f 28=ii (i:Int)∧d=[] ∧
        ∃ pv G' w,f 7=pv∧Grow h M' G' pv 1 3 (P.length+c) ((P++List.replicate c x.L).map ni)∧G'[G.length]? = some (.cells (zBz [uu (x.T % 2 ^ 64),uu (x.T >>> 64),ii (x.L:Int),ii x.at_]) 67)∧h.clock≤w∧h'=X h (M'++G') w) (fun c=>300 - c) ?_ 301 0 (by omega) ?_
      · rintro c f d h' ⟨hcn,g9,g26,g27,g28,rfl,pv,G',w,g7,hg,hG9,hw,rfl⟩
        obtain ⟨fp1,fp2⟩:=hg.flat
        have lx1:=fun J w=>(lx hG9 J w).1
        have lx2:=fun J w=>(lx hG9 J w).2
        have lx10:=fun w=>by have:=lx1 [] w;rwa [List.append_nil] at this
        have lx20:=fun w=>by have:=lx2 [] w;rwa [List.append_nil] at this
        have hlp : ∀ h',lenE Try.prog 22 pv h'=some (ii ((P.length+c:Nat):Int)):=fun h'=>(hg.sl wf h.clock).len yRw
        by_cases hcl:P.length+c<max P.length (x.at_+1).toNat
        · have hle:((P.length+c:Nat):Int)≤x.at_:=by omega
          obtain ⟨pv',G'',hg',hk',happ2⟩:=(hg.more [.cells (zBz [ni x.L]) 3]).appendK (P:=Try.prog) wf yRw sz_3 el_3 (x:=.sl (nx h (M'.length+G'.length)) 0 1 (some 1) 1) (n:=1) (new:=[ni x.L]) (by omega) (by omega) (by decide) rfl rfl (fun w=>src_new (e:=3) wf (by rw [← List.append_assoc,show M'.length+G'.length=(M'++G').length by simp];simp) rfl)
          obtain ⟨w',hw1,hw2,happ2⟩:=happ2 w hw
          have hG9':=hk' G.length _ 67 (by decide) (by rw [List.getElem?_append_left (zOw hG9)];exact hG9)
          have hr:reszT Try.prog 22 pv=pv:=hg.resz 22
          have e3:(P++List.replicate (c+1) x.L).map ni=(P++List.replicate c x.L).map ni++[ni x.L]:=by
            rw [List.replicate_succ',← List.append_assoc,List.map_append];rfl
          rw [← e3] at hg'
          obtain ⟨fq1,fq2⟩:=hg'.flat
          (repeat' (first
  | (with_reducible first|refine zJx ?_|refine zGw ?_|refine zFz ?_|refine zEv ?_|refine zFy ?_|refine zJw ?_|refine zGv ?_|refine zCz ?_|refine zDw ?_|refine zCy ?_|refine zCv ?_|refine zEx ?_|refine zDz ?_|refine zCx ?_|refine zBx ?_|refine zEz ?_|refine zEy ?_|refine zAw ?_|refine zBy ?_)
  | refine zDy ?_|refine zEw rfl ?_|refine zIv ?_|refine zJy ?_
  | ((first|refine zGx rfl rfl rfl rfl rfl fun K_ hK_=>?_|refine zGy rfl rfl rfl rfl rfl fun K_ hK_=>?_);simp only [zAz,zDx,zGz,↓reduceIte,reduceCtorEq,Nat.reduceEqDiff,Bool.not_true,Bool.not_false];refine hK_ _ ?_;clear hK_ K_)
  | refine zDv (by decide) ?_
  | ((try first|refine zKy rfl rfl rfl ?_|refine zIw rfl rfl ?_|refine zKx rfl rfl rfl ?_|refine zJz rfl rfl ?_);(refine zIx fun Q_ hQ_=>?_;simp (disch:=first|omega|(simp only [List.length_cons,List.length_nil,List.length_append];omega)) only [bb,bp,zLx,↓reduceIte,reduceCtorEq,Nat.reduceEqDiff,Nat.reduceLT,Nat.reduceLeDiff,Nat.reduceAdd,Nat.reduceMul,Nat.reduceSub,Nat.reduceBEq,Int.reduceToNat,cond_true,cond_false,eq_self,beq_self_eq_true,hl,hlv,hlp,f1,f2,fw1,fw2,fp1,fp2,fq1,fq2,g7,g9,g26,g27,g28,lx10,lx20,hr,hrz2,happ2,zSw,zFw wf,zHx wf,zBv wf,zFx wf,zAy wf,tEvZ20,zIy,zIz,zHv,zHw,zAv wf];first|(refine zCw (Q:=Q_) (fun hp_=>?_) (fun hp_=>?_) <;> first|(exfalso;omega)|(refine hQ_ _ _ ?_;clear hQ_ Q_))|(refine zBw (Q:=Q_) (fun hp_=>?_) (fun hp_=>?_) <;> first|(exfalso;omega)|(refine hQ_ _ _ ?_;clear hQ_ Q_))|(refine hQ_ _ _ ?_;clear hQ_ Q_)))
  | (refine zHz fun K_ hK_=>?_;simp (disch:=omega) only [zFv,zAz,zHy,↓reduceIte,reduceCtorEq,Nat.reduceEqDiff,Nat.reduceLT];refine hK_ _ ?_;clear hK_ K_)))
          exact zLy (c+1) (by omega) ⟨by omega,by simp only [zAz,↓reduceIte,reduceCtorEq,Nat.reduceEqDiff];exact g9,by simp only [zAz,↓reduceIte,reduceCtorEq,Nat.reduceEqDiff];exact g26,by simp only [zAz,↓reduceIte,reduceCtorEq,Nat.reduceEqDiff];exact g27,by simp only [zAz,↓reduceIte,reduceCtorEq,Nat.reduceEqDiff];exact g28,rfl,pv',G'',w',by simp only [zAz,↓reduceIte,reduceCtorEq,Nat.reduceEqDiff],hg',hG9',hw1,rfl⟩
        · have hle : ¬ ((P.length+c:Nat):Int)≤x.at_:=by omega
          have hce:c=(x.at_+1).toNat - P.length:=by omega
          (repeat' (first
  | (with_reducible first|refine zJx ?_|refine zGw ?_|refine zFz ?_|refine zEv ?_|refine zFy ?_|refine zJw ?_|refine zGv ?_|refine zCz ?_|refine zDw ?_|refine zCy ?_|refine zCv ?_|refine zEx ?_|refine zDz ?_|refine zCx ?_|refine zBx ?_|refine zEz ?_|refine zEy ?_|refine zAw ?_|refine zBy ?_)
  | refine zDy ?_|refine zEw rfl ?_|refine zIv ?_|refine zJy ?_
  | ((first|refine zGx rfl rfl rfl rfl rfl fun K_ hK_=>?_|refine zGy rfl rfl rfl rfl rfl fun K_ hK_=>?_);simp only [zAz,zDx,zGz,↓reduceIte,reduceCtorEq,Nat.reduceEqDiff,Bool.not_true,Bool.not_false];refine hK_ _ ?_;clear hK_ K_)
  | refine zDv (by decide) ?_
  | ((try first|refine zKy rfl rfl rfl ?_|refine zIw rfl rfl ?_|refine zKx rfl rfl rfl ?_|refine zJz rfl rfl ?_);(refine zIx fun Q_ hQ_=>?_;simp (disch:=first|omega|(simp only [List.length_cons,List.length_nil,List.length_append];omega)) only [bb,bp,zLx,↓reduceIte,reduceCtorEq,Nat.reduceEqDiff,Nat.reduceLT,Nat.reduceLeDiff,Nat.reduceAdd,Nat.reduceMul,Nat.reduceSub,Nat.reduceBEq,Int.reduceToNat,cond_true,cond_false,eq_self,beq_self_eq_true,hl,hlv,hlp,f1,f2,fw1,fw2,fp1,fp2,g7,g9,g26,g27,g28,lx10,lx20,zFw wf,zHx wf,zBv wf,zFx wf,zAy wf,tEvZ20,zIy,zIz,zHv,zHw,zAv wf];first|(refine zCw (Q:=Q_) (fun hp_=>?_) (fun hp_=>?_) <;> first|(exfalso;omega)|(refine hQ_ _ _ ?_;clear hQ_ Q_))|(refine zBw (Q:=Q_) (fun hp_=>?_) (fun hp_=>?_) <;> first|(exfalso;omega)|(refine hQ_ _ _ ?_;clear hQ_ Q_))|(refine hQ_ _ _ ?_;clear hQ_ Q_)))
  | (refine zHz fun K_ hK_=>?_;simp (disch:=omega) only [zFv,zAz,zHy,↓reduceIte,reduceCtorEq,Nat.reduceEqDiff,Nat.reduceLT];refine hK_ _ ?_;clear hK_ K_)))
          refine zLy (i+1) (by omega) ⟨hlt,by simp only [zAz,↓reduceIte,reduceCtorEq,Nat.reduceEqDiff];exact g26,by simp only [zAz,↓reduceIte,reduceCtorEq,Nat.reduceEqDiff];exact g27,by simp only [zAz,↓reduceIte,reduceCtorEq,Nat.reduceEqDiff];rfl,rfl,pv,G',w,by simp only [zAz,↓reduceIte,reduceCtorEq,Nat.reduceEqDiff];exact g7,?_,hw,rfl⟩
          rw [e1,← hce,List.length_append,List.length_replicate]
          exact hg
      · exact ⟨by omega,by simp only [zAz,↓reduceIte,reduceCtorEq,Nat.reduceEqDiff],by simp only [zAz,↓reduceIte,reduceCtorEq,Nat.reduceEqDiff];exact g26,by simp only [zAz,↓reduceIte,reduceCtorEq,Nat.reduceEqDiff];exact g27,by simp only [zAz,↓reduceIte,reduceCtorEq,Nat.reduceEqDiff];exact g28,rfl,pv,_,_,by simp only [zAz,↓reduceIte,reduceCtorEq,Nat.reduceEqDiff];exact g7,by rw [List.replicate_zero,List.append_nil,Nat.add_zero];exact hg.more _,by rw [List.getElem?_append_right (Nat.le_refl _),Nat.sub_self];rfl,by omega,rfl⟩
    · have hie:i=lst.length:=by omega
      subst hie
      rw [List.take_length] at hg
      rw [hpe] at hg
      (repeat' (first
  | (with_reducible first|refine zJx ?_|refine zGw ?_|refine zFz ?_|refine zEv ?_|refine zFy ?_|refine zJw ?_|refine zGv ?_|refine zCz ?_|refine zDw ?_|refine zCy ?_|refine zCv ?_|refine zEx ?_|refine zDz ?_|refine zCx ?_|refine zBx ?_|refine zEz ?_|refine zEy ?_|refine zAw ?_|refine zBy ?_)
  | refine zDy ?_|refine zEw rfl ?_|refine zIv ?_|refine zJy ?_
  | ((first|refine zGx rfl rfl rfl rfl rfl fun K_ hK_=>?_|refine zGy rfl rfl rfl rfl rfl fun K_ hK_=>?_);simp only [zAz,zDx,zGz,↓reduceIte,reduceCtorEq,Nat.reduceEqDiff,Bool.not_true,Bool.not_false];refine hK_ _ ?_;clear hK_ K_)
  | refine zDv (by decide) ?_
  | ((try first|refine zKy rfl rfl rfl ?_|refine zIw rfl rfl ?_|refine zKx rfl rfl rfl ?_|refine zJz rfl rfl ?_);(refine zIx fun Q_ hQ_=>?_;simp (disch:=first|omega|(simp only [List.length_cons,List.length_nil,List.length_append];omega)) only [bb,bp,zLx,↓reduceIte,reduceCtorEq,Nat.reduceEqDiff,Nat.reduceLT,Nat.reduceLeDiff,Nat.reduceAdd,Nat.reduceMul,Nat.reduceSub,Nat.reduceBEq,Int.reduceToNat,cond_true,cond_false,eq_self,beq_self_eq_true,hl,hlv,f1,f2,fw1,fw2,fp1,fp2,g7,g26,g27,g28,zFw wf,zHx wf,zBv wf,zFx wf,zAy wf,zAx,tEvZ20,zIy,zIz,zHv,zHw,zAv wf];first|(refine zCw (Q:=Q_) (fun hp_=>?_) (fun hp_=>?_) <;> first|(exfalso;omega)|(refine hQ_ _ _ ?_;clear hQ_ Q_))|(refine zBw (Q:=Q_) (fun hp_=>?_) (fun hp_=>?_) <;> first|(exfalso;omega)|(refine hQ_ _ _ ?_;clear hQ_ Q_))|(refine hQ_ _ _ ?_;clear hQ_ Q_)))
  | (refine zHz fun K_ hK_=>?_;simp (disch:=omega) only [zFv,zAz,zHy,↓reduceIte,reduceCtorEq,Nat.reduceEqDiff,Nat.reduceLT];refine hK_ _ ?_;clear hK_ K_)))
      refine zJv _ _ rfl (ret2 (by decide) (by decide)) ?_
      simp only [zAz,↓reduceIte,reduceCtorEq,Nat.reduceEqDiff]
      have hpos:0<(prof++List.replicate (xs.length+1 - p) L).length:=by rw [hpo.len];omega
      generalize prof++List.replicate (xs.length+1 - p) L=F at *
      obtain ⟨hgl,h1|⟨gi,hpv,hgg⟩⟩:=hg
      · omega
      · subst hpv
        refine xTz wf hw (fun hfl=>absurd (show false=true from hfl) (by decide)) (fun _=>?_)
        refine ⟨F,_,M'++G,hpo,capu_none,fun J w=>?_,rfl,rfl⟩
        exact Sl.new (k:=M'.length+gi) wf (by rw [List.length_map,Nat.mul_one]) (by rw [List.append_assoc,xBv,List.getElem?_append_left (zOw hgg)];exact hgg)
  · exact ⟨Nat.zero_le _,by simp only [zAz,↓reduceIte,reduceCtorEq,Nat.reduceEqDiff],by simp only [zAz,↓reduceIte,reduceCtorEq,Nat.reduceEqDiff],by simp only [zAz,↓reduceIte,reduceCtorEq,Nat.reduceEqDiff];try rfl,rfl,.nils,[],_,by simp only [zAz,↓reduceIte,reduceCtorEq,Nat.reduceEqDiff],by rw [List.take_zero];exact Grow.nil _ _ _ _ _,Nat.le_refl _,by rw [List.append_nil]⟩
end Go.Proofs.Ytmincoafjnnkpaa
end
