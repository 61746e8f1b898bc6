import Derived.Test.YtmincoafjnnkpaawvM8
set_option linter.all false
section
namespace Go.Proofs.Ytmincoafjnnkpaa
open Go.Ev
set_option maxRecDepth 100000
set_option linter.unusedSimpArgs false
set_option linter.unusedVariables false
set_option maxHeartbeats 2000000
theorem tEvZ30 :type_of% (And.intro (And.intro (And.intro (And.intro (And.intro (And.intro (And.intro (@yQx) (@yQy)) (And.intro (@yQz) (@yPv))) (And.intro (And.intro (@yPw) (@yPx)) (And.intro (@ia_2) (And.intro (@ia_3) (@ia_4))))) (And.intro (And.intro (And.intro (@ia_5) (@yPy)) (And.intro (@yPz) (@yOv))) (And.intro (And.intro (@yOw) (@yOx)) (And.intro (@yOy) (And.intro (@zRv) (@yOz)))))) (And.intro (And.intro (And.intro (And.intro (@yNv) (@yNw)) (And.intro (@yNx) (@yNy))) (And.intro (And.intro (@yNz) (@yMv)) (And.intro (@yMw) (And.intro (@yMx) (@sz_2))))) (And.intro (And.intro (And.intro (@sz_3) (@sz_4)) (And.intro (@sz_5) (And.intro (@zQv) (@zYw)))) (And.intro (And.intro (@zYx) (@zYy)) (And.intro (@zYz) (And.intro (@zXv) (@zRx))))))) (And.intro (And.intro (And.intro (And.intro (And.intro (@zXw) (@zXx)) (And.intro (@zXy) (@zQx))) (And.intro (And.intro (@zXz) (@zWv)) (And.intro (@zWw) (And.intro (@zWx) (@zWy))))) (And.intro (And.intro (And.intro (@ze_2) (@ze_3)) (And.intro (@ze_4) (And.intro (@ze_5) (@zWz)))) (And.intro (And.intro (@zVv) (@zVw)) (And.intro (@zVx) (And.intro (@zVy) (@zVz)))))) (And.intro (And.intro (And.intro (And.intro (@zUv) (@zUw)) (And.intro (@zUx) (@zUy))) (And.intro (And.intro (@zUz) (@zTv)) (And.intro (@zTw) (And.intro (@zTx) (@zTy))))) (And.intro (And.intro (And.intro (@zOy) (@zOz)) (And.intro (@zNv) (And.intro (@zNw) (@zNx)))) (And.intro (And.intro (@zNy) (@zNz)) (And.intro (@zMv) (And.intro (@zMw) (@yMy)))))))) (And.intro (And.intro (And.intro (And.intro (And.intro (And.intro (@yMz) (@yLv)) (And.intro (@yLw) (@yLx))) (And.intro (And.intro (@yLy) (@yLz)) (And.intro (@yKv) (And.intro (@yKw) (@yKx))))) (And.intro (And.intro (And.intro (@yKy) (@yKz)) (And.intro (@yJv) (@yJw))) (And.intro (And.intro (@yJx) (@yJy)) (And.intro (@yJz) (And.intro (@yIv) (@yIw)))))) (And.intro (And.intro (And.intro (And.intro (@yIx) (@yIy)) (And.intro (@yIz) (@yHv))) (And.intro (And.intro (@yHw) (@yHx)) (And.intro (@yHy) (And.intro (@yHz) (@yGv))))) (And.intro (And.intro (And.intro (@yGw) (@yGx)) (And.intro (@yGy) (And.intro (@yGz) (@yFv)))) (And.intro (And.intro (@yFw) (@yFx)) (And.intro (@yFy) (And.intro (@yFz) (@yEv))))))) (And.intro (And.intro (And.intro (And.intro (And.intro (@yEw) (@yEx)) (And.intro (@yEy) (@yEz))) (And.intro (And.intro (@yDv) (@yDw)) (And.intro (@yDx) (And.intro (@yDy) (@yDz))))) (And.intro (And.intro (And.intro (@yCv) (@yCw)) (And.intro (@yCx) (And.intro (@yCy) (@yCz)))) (And.intro (And.intro (@zSz) (@yBv)) (And.intro (@yBw) (And.intro (@yBx) (@yBy)))))) (And.intro (And.intro (And.intro (And.intro (@yBz) (@yAv)) (And.intro (@yAw) (@yAx))) (And.intro (And.intro (@yAy) (@yAz)) (And.intro (@zZv) (And.intro (@zZw) (@zZx))))) (And.intro (And.intro (And.intro (@zZy) (@zZz)) (And.intro (@zQy) (And.intro (@zSv) (@zSw)))) (And.intro (And.intro (@zQw) (@zSx)) (And.intro (@zRy) (And.intro (@zSy) (@zRw))))))))):=And.intro (And.intro (And.intro (And.intro (And.intro (And.intro (And.intro (@yQx) (@yQy)) (And.intro (@yQz) (@yPv))) (And.intro (And.intro (@yPw) (@yPx)) (And.intro (@ia_2) (And.intro (@ia_3) (@ia_4))))) (And.intro (And.intro (And.intro (@ia_5) (@yPy)) (And.intro (@yPz) (@yOv))) (And.intro (And.intro (@yOw) (@yOx)) (And.intro (@yOy) (And.intro (@zRv) (@yOz)))))) (And.intro (And.intro (And.intro (And.intro (@yNv) (@yNw)) (And.intro (@yNx) (@yNy))) (And.intro (And.intro (@yNz) (@yMv)) (And.intro (@yMw) (And.intro (@yMx) (@sz_2))))) (And.intro (And.intro (And.intro (@sz_3) (@sz_4)) (And.intro (@sz_5) (And.intro (@zQv) (@zYw)))) (And.intro (And.intro (@zYx) (@zYy)) (And.intro (@zYz) (And.intro (@zXv) (@zRx))))))) (And.intro (And.intro (And.intro (And.intro (And.intro (@zXw) (@zXx)) (And.intro (@zXy) (@zQx))) (And.intro (And.intro (@zXz) (@zWv)) (And.intro (@zWw) (And.intro (@zWx) (@zWy))))) (And.intro (And.intro (And.intro (@ze_2) (@ze_3)) (And.intro (@ze_4) (And.intro (@ze_5) (@zWz)))) (And.intro (And.intro (@zVv) (@zVw)) (And.intro (@zVx) (And.intro (@zVy) (@zVz)))))) (And.intro (And.intro (And.intro (And.intro (@zUv) (@zUw)) (And.intro (@zUx) (@zUy))) (And.intro (And.intro (@zUz) (@zTv)) (And.intro (@zTw) (And.intro (@zTx) (@zTy))))) (And.intro (And.intro (And.intro (@zOy) (@zOz)) (And.intro (@zNv) (And.intro (@zNw) (@zNx)))) (And.intro (And.intro (@zNy) (@zNz)) (And.intro (@zMv) (And.intro (@zMw) (@yMy)))))))) (And.intro (And.intro (And.intro (And.intro (And.intro (And.intro (@yMz) (@yLv)) (And.intro (@yLw) (@yLx))) (And.intro (And.intro (@yLy) (@yLz)) (And.intro (@yKv) (And.intro (@yKw) (@yKx))))) (And.intro (And.intro (And.intro (@yKy) (@yKz)) (And.intro (@yJv) (@yJw))) (And.intro (And.intro (@yJx) (@yJy)) (And.intro (@yJz) (And.intro (@yIv) (@yIw)))))) (And.intro (And.intro (And.intro (And.intro (@yIx) (@yIy)) (And.intro (@yIz) (@yHv))) (And.intro (And.intro (@yHw) (@yHx)) (And.intro (@yHy) (And.intro (@yHz) (@yGv))))) (And.intro (And.intro (And.intro (@yGw) (@yGx)) (And.intro (@yGy) (And.intro (@yGz) (@yFv)))) (And.intro (And.intro (@yFw) (@yFx)) (And.intro (@yFy) (And.intro (@yFz) (@yEv))))))) (And.intro (And.intro (And.intro (And.intro (And.intro (@yEw) (@yEx)) (And.intro (@yEy) (@yEz))) (And.intro (And.intro (@yDv) (@yDw)) (And.intro (@yDx) (And.intro (@yDy) (@yDz))))) (And.intro (And.intro (And.intro (@yCv) (@yCw)) (And.intro (@yCx) (And.intro (@yCy) (@yCz)))) (And.intro (And.intro (@zSz) (@yBv)) (And.intro (@yBw) (And.intro (@yBx) (@yBy)))))) (And.intro (And.intro (And.intro (And.intro (@yBz) (@yAv)) (And.intro (@yAw) (@yAx))) (And.intro (And.intro (@yAy) (@yAz)) (And.intro (@zZv) (And.intro (@zZw) (@zZx))))) (And.intro (And.intro (And.intro (@zZy) (@zZz)) (And.intro (@zQy) (And.intro (@zSv) (@zSw)))) (And.intro (And.intro (@zQw) (@zSx)) (And.intro (@zRy) (And.intro (@zSy) (@zRw))))))))
theorem solved (bs:List Bool) (hb:bs.length≤128) (L:Nat) (hL:L≤bs.length) (a:AV) (h:H) (wf:Wf h) (hs:Sl h a 1 bs.length (bs.map bi)) :
    ∃ b:Bool,(b=true ↔ ∃ T,T<2 ^ L∧Makes T L (sq bs) bs.length)∧(om Try.prog KK).call (.fn 57 [a,ii (L:Int)]) h = .ok (.bool b) h:=by
  suffices hW:WV ((om Try.prog KK).call (.fn 57 [a,ii (L:Int)]) h) fun r h'=>∃ b:Bool,(b=true ↔ ∃ T,T<2 ^ L∧Makes T L (sq bs) bs.length)∧r = .bool b∧h'=h by
    obtain ⟨r,h',e,b,h1,rfl,rfl⟩:=hW
    exact ⟨b,h1,e⟩
  have hl : ∀ h',lenE Try.prog 22 a h'=some (ii (bs.length:Int)):=fun h'=>hs.len yTx
  obtain ⟨f1,f2⟩:=zPv hs
  have hsol:=sol_eqs (s:=sq bs) hL
  generalize hn:bs.length=n at *
  generalize hsq:sq bs=s at *
  have hgets : ∀ i,i<n → ∃ id off,indexAddrE Try.prog 22 a (.int .i64 (i:Int))=some (.ptr id off) ∧ ∀ l w,load1 id off (X h l w)=some (bi (s i)):=fun i hi=>by
    have:=bget wf (bs:=bs) (a:=a) (by rw [hn];exact hs) (i:=i) (by omega)
    rw [hsq] at this
    exact this
  have hrz : ∀ id off l c esz,reszT Try.prog 22 (.sl id off l (some c) esz) = .sl id off l (some c) 1:=fun _ _ _ _ _=>yUx yTx sz_3
  have hrz2 : ∀ id off l c esz,reszT Try.prog 42 (.sl id off l (some c) esz) = .sl id off l (some c) 1:=fun _ _ _ _ _=>yUx un_42 zQv
  refine zMy (fn:=Try.f57) Try.func57 rfl rfl rfl rfl rfl ?_
  simp only [zKv]
  (repeat' (first
  | (with_reducible first|refine zJx ?_|refine zGw ?_|refine zFz ?_|refine zEv ?_|refine zFy ?_|refine zJw ?_|refine zGv ?_|refine zCz ?_|refine zDw ?_|refine zCy ?_|refine zCv ?_|refine zEx ?_|refine zDz ?_|refine zCx ?_|refine zBx ?_|refine zEz ?_|refine zEy ?_|refine zAw ?_|refine zBy ?_)
  | refine zDy ?_|refine zEw rfl ?_|refine zIv ?_|refine zJy ?_
  | ((first|refine zGx rfl rfl rfl rfl rfl fun K_ hK_=>?_|refine zGy rfl rfl rfl rfl rfl fun K_ hK_=>?_);simp only [zAz,zDx,zGz,↓reduceIte,reduceCtorEq,Nat.reduceEqDiff,Bool.not_true,Bool.not_false];refine hK_ _ ?_;clear hK_ K_)
  | refine zDv (by decide) ?_
  | ((try first|refine zKy rfl rfl rfl ?_|refine zIw rfl rfl ?_|refine zKx rfl rfl rfl ?_|refine zJz rfl rfl ?_);(refine zIx fun Q_ hQ_=>?_;simp (disch:=first|omega|(simp only [List.length_cons,List.length_nil,List.length_append];omega)) only [bb,bp,zKv,↓reduceIte,reduceCtorEq,Nat.reduceEqDiff,Nat.reduceLT,Nat.reduceLeDiff,Nat.reduceAdd,Nat.reduceMul,Nat.reduceSub,Nat.reduceBEq,Int.reduceToNat,cond_true,cond_false,eq_self,beq_self_eq_true,hl,f1,f2,zFx wf,zHx wf,zBv wf,zFw wf,zAy wf,zAx,tEvZ30,zIy,zIz,zHv,zHw,zAv wf];first|(refine zCw (Q:=Q_) (fun hp_=>?_) (fun hp_=>?_) <;> first|(exfalso;omega)|(refine hQ_ _ _ ?_;clear hQ_ Q_))|(refine zBw (Q:=Q_) (fun hp_=>?_) (fun hp_=>?_) <;> first|(exfalso;omega)|(refine hQ_ _ _ ?_;clear hQ_ Q_))|(refine hQ_ _ _ ?_;clear hQ_ Q_)))
  | (refine zHz fun K_ hK_=>?_;simp (disch:=omega) only [zFv,zAz,zHy,↓reduceIte,reduceCtorEq,Nat.reduceEqDiff,Nat.reduceLT];refine hK_ _ ?_;clear hK_ K_)))
  refine zOw (α:=Nat) (fun (i:Nat) f d h'=>L≤i∧i≤n∧f 0=a∧f 1=ii (L:Int)∧f 6=ii (i:Int)∧d=[] ∧
    ∃ M vo io ps w,f 5=vo∧Ows h M io (rowVs h L (i - L) ps) vo∧RowsAt M L (i - L) ps (eqs L s)∧h.clock≤w∧w≤h.clock+M.length∧h'=X h M w) (fun i=>n - i) ?_ (n+1) L (by omega) ?_
  · rintro i f d h' ⟨hLi,hin,g0,g1,g6,rfl,M,vo,io,ps,w,g5,ows,rat,hw,hwl,rfl⟩
    obtain ⟨go1,go2⟩:=ows.flat
    by_cases hlt:i<n
    ·
      (repeat' (first
  | (with_reducible first|refine zJx ?_|refine zGw ?_|refine zFz ?_|refine zEv ?_|refine zFy ?_|refine zJw ?_|refine zGv ?_|refine zCz ?_|refine zDw ?_|refine zCy ?_|refine zCv ?_|refine zEx ?_|refine zDz ?_|refine zCx ?_|refine zBx ?_|refine zEz ?_|refine zEy ?_|refine zAw ?_|refine zBy ?_)
  | refine zDy ?_|refine zEw rfl ?_|refine zIv ?_|refine zJy ?_
  | ((first|refine zGx rfl rfl rfl rfl rfl fun K_ hK_=>?_|refine zGy rfl rfl rfl rfl rfl fun K_ hK_=>?_);simp only [zAz,zDx,zGz,↓reduceIte,reduceCtorEq,Nat.reduceEqDiff,Bool.not_true,Bool.not_false];refine hK_ _ ?_;clear hK_ K_)
  | refine zDv (by decide) ?_
  | ((try first|refine zKy rfl rfl rfl ?_|refine zIw rfl rfl ?_|refine zKx rfl rfl rfl ?_|refine zJz rfl rfl ?_);(refine zIx fun Q_ hQ_=>?_;simp (disch:=first|omega|(simp only [List.length_cons,List.length_nil,List.length_append];omega)) only [bb,bp,zKv,↓reduceIte,reduceCtorEq,Nat.reduceEqDiff,Nat.reduceLT,Nat.reduceLeDiff,Nat.reduceAdd,Nat.reduceMul,Nat.reduceSub,Nat.reduceBEq,Int.reduceToNat,cond_true,cond_false,eq_self,beq_self_eq_true,hl,f1,f2,go1,go2,g0,g1,g5,g6,zFx wf,zHx wf,zBv wf,zFw wf,zAy wf,zAx,tEvZ30,zIy,zIz,zHv,zHw,zAv wf];first|(refine zCw (Q:=Q_) (fun hp_=>?_) (fun hp_=>?_) <;> first|(exfalso;omega)|(refine hQ_ _ _ ?_;clear hQ_ Q_))|(refine zBw (Q:=Q_) (fun hp_=>?_) (fun hp_=>?_) <;> first|(exfalso;omega)|(refine hQ_ _ _ ?_;clear hQ_ Q_))|(refine hQ_ _ _ ?_;clear hQ_ Q_)))
  | (refine zHz fun K_ hK_=>?_;simp (disch:=omega) only [zFv,zAz,zHy,↓reduceIte,reduceCtorEq,Nat.reduceEqDiff,Nat.reduceLT];refine hK_ _ ?_;clear hK_ K_)))
      refine zOw (α:=Nat) (fun (j:Nat) f d h'=>j≤L∧f 0=a∧f 1=ii (L:Int)∧f 5=vo∧f 6=ii (i:Int)∧f 8=ii ((j+1:Nat):Int)∧d=[] ∧
        ∃ M' v7 i7 w',f 7=v7∧Own h M' i7 ((mL (eqs L s (i - L)) j).map bi) v7∧(j=0∨M.length≤i7)∧M.length≤M'.length∧(∀ k o,k<M.length→M[k]? = some o→M'[k]? = some o)∧h.clock≤w'∧w'≤h.clock+M'.length∧h'=X h M' w') (fun j=>L - j) ?_ (L+1) 0 (by omega) ?_
      · rintro j f d h' ⟨hj,g0,g1,g5,g6,g8,rfl,M',v7,i7,w',g7,own,hi7,hMl,hkeep,hw',hwl',rfl⟩
        obtain ⟨g71,g72⟩:=own.flat
        have hlen7:((mL (eqs L s (i - L)) j).map bi).length=j:=by rw [List.length_map,yRw]
        by_cases hjl:j<L
        · obtain ⟨id,off,hix,hld⟩:=hgets (i - (j+1)) (by omega)
          have hij:(i:Int) - ((j+1:Nat):Int)=((i - (j+1):Nat):Int):=by omega
          have hval:s (i - (j+1))=eqs L s (i - L) j:=by unfold eqs;rw [if_pos hjl,show L+(i - L) - 1 - j=i - (j+1) by omega]
          rw [hval] at hld
          obtain ⟨v',M2,own',hl2,hk2,happ⟩:=own.app wf (bi (eqs L s (i - L) j)) rfl (by rw [hlen7];omega)
          obtain ⟨w2,hw21,hw22,happ⟩:=happ w' hw'
          have eq1:(mL (eqs L s (i - L)) (j+1)).map bi=(mL (eqs L s (i - L)) j).map bi++[bi (eqs L s (i - L) j)]:=by rw [mL_succ,List.map_append];rfl
          rw [← eq1] at own'
          obtain ⟨g73,g74⟩:=own'.flat
          have ho:oneB (bi (eqs L s (i - L) j))=true:=rfl
          have ho':AV.cells (bi (eqs L s (i - L) j))=[bi (eqs L s (i - L) j)]:=rfl
          generalize bi (eqs L s (i - L) j)=y at *
          have hle:((j+1:Nat):Int)≤(L:Int):=by omega
          have hj2:((j+1:Nat):Int)+1=((j+1+1:Nat):Int):=by omega
          (repeat' (first
  | (with_reducible first|refine zJx ?_|refine zGw ?_|refine zFz ?_|refine zEv ?_|refine zFy ?_|refine zJw ?_|refine zGv ?_|refine zCz ?_|refine zDw ?_|refine zCy ?_|refine zCv ?_|refine zEx ?_|refine zDz ?_|refine zCx ?_|refine zBx ?_|refine zEz ?_|refine zEy ?_|refine zAw ?_|refine zBy ?_)
  | refine zDy ?_|refine zEw rfl ?_|refine zIv ?_|refine zJy ?_
  | ((first|refine zGx rfl rfl rfl rfl rfl fun K_ hK_=>?_|refine zGy rfl rfl rfl rfl rfl fun K_ hK_=>?_);simp only [zAz,zDx,zGz,↓reduceIte,reduceCtorEq,Nat.reduceEqDiff,Bool.not_true,Bool.not_false];refine hK_ _ ?_;clear hK_ K_)
  | refine zDv (by decide) ?_
  | ((try first|refine zKy rfl rfl rfl ?_|refine zIw rfl rfl ?_|refine zKx rfl rfl rfl ?_|refine zJz rfl rfl ?_);(refine zIx fun Q_ hQ_=>?_;simp (disch:=first|omega|(simp only [List.length_cons,List.length_nil,List.length_append];omega)) only [bb,bp,zKv,↓reduceIte,reduceCtorEq,Nat.reduceEqDiff,Nat.reduceLT,Nat.reduceLeDiff,Nat.reduceAdd,Nat.reduceMul,Nat.reduceSub,Nat.reduceBEq,Int.reduceToNat,cond_true,cond_false,eq_self,beq_self_eq_true,hl,f1,f2,go1,go2,g71,g72,g73,g74,g0,g1,g5,g6,g7,g8,hij,hix,hld,ho,ho',happ,hrz,hj2,zRy,zFx wf,zHx wf,zBv wf,zFw wf,zAy wf,zAx,tEvZ30,zIy,zIz,zHv,zHw,zAv wf];first|(refine zCw (Q:=Q_) (fun hp_=>?_) (fun hp_=>?_) <;> first|(exfalso;omega)|(refine hQ_ _ _ ?_;clear hQ_ Q_))|(refine zBw (Q:=Q_) (fun hp_=>?_) (fun hp_=>?_) <;> first|(exfalso;omega)|(refine hQ_ _ _ ?_;clear hQ_ Q_))|(refine hQ_ _ _ ?_;clear hQ_ Q_)))
  | (refine zHz fun K_ hK_=>?_;simp (disch:=omega) only [zFv,zAz,zHy,↓reduceIte,reduceCtorEq,Nat.reduceEqDiff,Nat.reduceLT];refine hK_ _ ?_;clear hK_ K_)))
          refine zJv (j+1) (by omega) ⟨hjl,by simp only [zAz,↓reduceIte,reduceCtorEq,Nat.reduceEqDiff];exact g0,by simp only [zAz,↓reduceIte,reduceCtorEq,Nat.reduceEqDiff];exact g1,by simp only [zAz,↓reduceIte,reduceCtorEq,Nat.reduceEqDiff];exact g5,by simp only [zAz,↓reduceIte,reduceCtorEq,Nat.reduceEqDiff];exact g6,by simp only [zAz,↓reduceIte,reduceCtorEq,Nat.reduceEqDiff];try rfl,rfl,M2,v',_,w2,by simp only [zAz,↓reduceIte,reduceCtorEq,Nat.reduceEqDiff],own',.inr (by omega),by omega,fun k o hk ho=>hk2 k o (hi7.elim (fun h=>.inl (by subst h;rfl)) fun h=>.inr (by omega)) (hkeep k o hk ho),hw21,by omega,rfl⟩
        · have hjL:j=L:=by omega
          subst hjL
          have hle : ¬ ((j+1:Nat):Int)≤(j:Int):=by omega
          obtain ⟨id,off,hix,hld⟩:=hgets i hlt
          have hval:s i=eqs j s (i - j) j:=by unfold eqs;rw [if_neg (Nat.lt_irrefl j),show j+(i - j)=i by omega]
          rw [hval] at hld
          obtain ⟨v',M2,own',hl2,hk2,happ⟩:=own.app wf (bi (eqs j s (i - j) j)) rfl (by rw [hlen7];omega)
          obtain ⟨w2,hw21,hw22,happ⟩:=happ w' hw'
          have eq1:(mL (eqs j s (i - j)) (j+1)).map bi=(mL (eqs j s (i - j)) j).map bi++[bi (eqs j s (i - j) j)]:=by rw [mL_succ,List.map_append];rfl
          rw [← eq1] at own'
          obtain ⟨g73,g74⟩:=own'.flat
          have hkeep2 : ∀ k o,k<M.length→M[k]? = some o→M2[k]? = some o:=fun k o hk ho=>hk2 k o (hi7.elim (fun h=>.inl (by subst h;rfl)) fun h=>.inr (by omega)) (hkeep k o hk ho)
          have ows2:Ows h M2 io (rowVs h j (i - j) ps) vo:=ows.keep fun _ o ho=>hkeep2 io o (zLv ho) ho
          obtain ⟨vo',M3,ows3,hl3,hk3,happ2⟩:=ows2.app wf v' g74 (by rw [xPx];omega)
          obtain ⟨w3,hw31,hw32,happ2⟩:=happ2 w2 hw21
          obtain ⟨go3,go4⟩:=ows3.flat
          have ho:oneB (bi (eqs j s (i - j) j))=true:=rfl
          have ho':AV.cells (bi (eqs j s (i - j) j))=[bi (eqs j s (i - j) j)]:=rfl
          have hv':v' = .sl (nx h (M'.length+1)) 0 (j+1) none 1∧M2[M'.length+1]? = some (.cells (zBz ((mL (eqs j s (i - j)) (j+1)).map bi)) 3):=by
            rcases own' with ⟨h0,_⟩|⟨_,h1,h2⟩
            · exact absurd (congrArg List.length h0) (by rw [List.length_map,yRw];simp)
            · rw [List.length_map,yRw] at h1
              exact ⟨h1,h2⟩
          have hnew:Ows h M3 (M2.length+1) (rowVs h j (i+1 - j) (fun r=>if r=i - j then M'.length+1 else ps r)) vo'∧RowsAt M3 j (i+1 - j) (fun r=>if r=i - j then M'.length+1 else ps r) (eqs j s):=by
            rw [show i+1 - j=(i - j)+1 by omega]
            exact rat.snoc hkeep2 ows2 ows3 hk3 hv'.1 hv'.2 (by omega)
          (repeat' (first
  | (with_reducible first|refine zJx ?_|refine zGw ?_|refine zFz ?_|refine zEv ?_|refine zFy ?_|refine zJw ?_|refine zGv ?_|refine zCz ?_|refine zDw ?_|refine zCy ?_|refine zCv ?_|refine zEx ?_|refine zDz ?_|refine zCx ?_|refine zBx ?_|refine zEz ?_|refine zEy ?_|refine zAw ?_|refine zBy ?_)
  | refine zDy ?_|refine zEw rfl ?_|refine zIv ?_|refine zJy ?_
  | ((first|refine zGx rfl rfl rfl rfl rfl fun K_ hK_=>?_|refine zGy rfl rfl rfl rfl rfl fun K_ hK_=>?_);simp only [zAz,zDx,zGz,↓reduceIte,reduceCtorEq,Nat.reduceEqDiff,Bool.not_true,Bool.not_false];refine hK_ _ ?_;clear hK_ K_)
  | refine zDv (by decide) ?_
  | ((try first|refine zKy rfl rfl rfl ?_|refine zIw rfl rfl ?_|refine zKx rfl rfl rfl ?_|refine zJz rfl rfl ?_);(refine zIx fun Q_ hQ_=>?_;simp (disch:=first|omega|(simp only [List.length_cons,List.length_nil,List.length_append];omega)) only [bb,bp,zKv,↓reduceIte,reduceCtorEq,Nat.reduceEqDiff,Nat.reduceLT,Nat.reduceLeDiff,Nat.reduceAdd,Nat.reduceMul,Nat.reduceSub,Nat.reduceBEq,Int.reduceToNat,cond_true,cond_false,eq_self,beq_self_eq_true,hl,f1,f2,go1,go2,go3,go4,g71,g72,g73,g74,g0,g1,g5,g6,g7,g8,hix,hld,ho,ho',happ,happ2,hrz,hrz2,zRy,zSy,zFx wf,zHx wf,zBv wf,zFw wf,zAy wf,zAx,tEvZ30,zIy,zIz,zHv,zHw,zAv wf];first|(refine zCw (Q:=Q_) (fun hp_=>?_) (fun hp_=>?_) <;> first|(exfalso;omega)|(refine hQ_ _ _ ?_;clear hQ_ Q_))|(refine zBw (Q:=Q_) (fun hp_=>?_) (fun hp_=>?_) <;> first|(exfalso;omega)|(refine hQ_ _ _ ?_;clear hQ_ Q_))|(refine hQ_ _ _ ?_;clear hQ_ Q_)))
  | (refine zHz fun K_ hK_=>?_;simp (disch:=omega) only [zFv,zAz,zHy,↓reduceIte,reduceCtorEq,Nat.reduceEqDiff,Nat.reduceLT];refine hK_ _ ?_;clear hK_ K_)))
          exact zJv (i+1) (by omega) ⟨by omega,by omega,by simp only [zAz,↓reduceIte,reduceCtorEq,Nat.reduceEqDiff];exact g0,by simp only [zAz,↓reduceIte,reduceCtorEq,Nat.reduceEqDiff];exact g1,by simp only [zAz,↓reduceIte,reduceCtorEq,Nat.reduceEqDiff];rfl,rfl,M3,vo',_,_,w3,by simp only [zAz,↓reduceIte,reduceCtorEq,Nat.reduceEqDiff],hnew.1,hnew.2,hw31,by omega,rfl⟩
      · exact ⟨Nat.zero_le _,by simp only [zAz,↓reduceIte,reduceCtorEq,Nat.reduceEqDiff];exact g0,by simp only [zAz,↓reduceIte,reduceCtorEq,Nat.reduceEqDiff];exact g1,by simp only [zAz,↓reduceIte,reduceCtorEq,Nat.reduceEqDiff];exact g5,by simp only [zAz,↓reduceIte,reduceCtorEq,Nat.reduceEqDiff];exact g6,by simp only [zAz,↓reduceIte,reduceCtorEq,Nat.reduceEqDiff];try rfl,rfl,M,.nils,0,w,by simp only [zAz,↓reduceIte,reduceCtorEq,Nat.reduceEqDiff],.inl ⟨rfl,rfl⟩,.inl rfl,Nat.le_refl _,fun _ _ _ h=>h,hw,hwl,rfl⟩
    · have hie:i=n:=by omega
      subst hie
      have hm : ∃ m,m=i - L:=⟨_,rfl⟩
      obtain ⟨m,hm⟩:=hm
      rw [← hm] at ows rat hsol
      have hlo : ∀ h',lenE Try.prog 42 vo h'=some (ii (m:Int)):=fun h'=>by
        have:=(ows.sl wf w).len un_42 (h':=h')
        rwa [xPx] at this
      (repeat' (first
  | (with_reducible first|refine zJx ?_|refine zGw ?_|refine zFz ?_|refine zEv ?_|refine zFy ?_|refine zJw ?_|refine zGv ?_|refine zCz ?_|refine zDw ?_|refine zCy ?_|refine zCv ?_|refine zEx ?_|refine zDz ?_|refine zCx ?_|refine zBx ?_|refine zEz ?_|refine zEy ?_|refine zAw ?_|refine zBy ?_)
  | refine zDy ?_|refine zEw rfl ?_|refine zIv ?_|refine zJy ?_
  | ((first|refine zGx rfl rfl rfl rfl rfl fun K_ hK_=>?_|refine zGy rfl rfl rfl rfl rfl fun K_ hK_=>?_);simp only [zAz,zDx,zGz,↓reduceIte,reduceCtorEq,Nat.reduceEqDiff,Bool.not_true,Bool.not_false];refine hK_ _ ?_;clear hK_ K_)
  | refine zDv (by decide) ?_
  | ((try first|refine zKy rfl rfl rfl ?_|refine zIw rfl rfl ?_|refine zKx rfl rfl rfl ?_|refine zJz rfl rfl ?_);(refine zIx fun Q_ hQ_=>?_;simp (disch:=first|omega|(simp only [List.length_cons,List.length_nil,List.length_append];omega)) only [bb,bp,zKv,↓reduceIte,reduceCtorEq,Nat.reduceEqDiff,Nat.reduceLT,Nat.reduceLeDiff,Nat.reduceAdd,Nat.reduceMul,Nat.reduceSub,Nat.reduceBEq,Int.reduceToNat,cond_true,cond_false,eq_self,beq_self_eq_true,hl,f1,f2,go1,go2,g0,g1,g5,g6,zFx wf,zHx wf,zBv wf,zFw wf,zAy wf,zAx,tEvZ30,zIy,zIz,zHv,zHw,zAv wf];first|(refine zCw (Q:=Q_) (fun hp_=>?_) (fun hp_=>?_) <;> first|(exfalso;omega)|(refine hQ_ _ _ ?_;clear hQ_ Q_))|(refine zBw (Q:=Q_) (fun hp_=>?_) (fun hp_=>?_) <;> first|(exfalso;omega)|(refine hQ_ _ _ ?_;clear hQ_ Q_))|(refine hQ_ _ _ ?_;clear hQ_ Q_)))
  | (refine zHz fun K_ hK_=>?_;simp (disch:=omega) only [zFv,zAz,zHy,↓reduceIte,reduceCtorEq,Nat.reduceEqDiff,Nat.reduceLT];refine hK_ _ ?_;clear hK_ K_)))
      refine zOw (α:=Nat) (fun (k:Nat) f d h'=>k≤m∧f 0=a∧f 1=ii (L:Int)∧f 5=vo∧f 9=ii (k:Int)∧d=[] ∧
        ∃ M rows w,Ows h M io (rowVs h L m ps) vo∧RowsAt M L m ps rows∧(SolF L m 0 (eqs L s) ↔ SolF L m k rows)∧h.clock≤w∧w≤h.clock+M.length∧h'=X h M w) (fun k=>m - k) ?_ (m+1) 0 (by omega) ?_
      · clear ows rat hw g0 g1 g5 g6
        rintro k f d h' ⟨hk,g0,g1,g5,g9,rfl,M,rows,w,ows,rat,hso,hw,hwl,rfl⟩
        by_cases hkm:k<m
        · obtain ⟨hixk,hldk⟩:=ows.row wf (r:=k) hkm
          have hck:AV.cells (rowV h L ps k)=[rowV h L ps k]:=rfl
          have hok:oneB (rowV h L ps k)=true:=rfl
          (repeat' (first
  | (with_reducible first|refine zJx ?_|refine zGw ?_|refine zFz ?_|refine zEv ?_|refine zFy ?_|refine zJw ?_|refine zGv ?_|refine zCz ?_|refine zDw ?_|refine zCy ?_|refine zCv ?_|refine zEx ?_|refine zDz ?_|refine zCx ?_|refine zBx ?_|refine zEz ?_|refine zEy ?_|refine zAw ?_|refine zBy ?_)
  | refine zDy ?_|refine zEw rfl ?_|refine zIv ?_|refine zJy ?_
  | ((first|refine zGx rfl rfl rfl rfl rfl fun K_ hK_=>?_|refine zGy rfl rfl rfl rfl rfl fun K_ hK_=>?_);simp only [zAz,zDx,zGz,↓reduceIte,reduceCtorEq,Nat.reduceEqDiff,Bool.not_true,Bool.not_false];refine hK_ _ ?_;clear hK_ K_)
  | refine zDv (by decide) ?_
  | ((try first|refine zKy rfl rfl rfl ?_|refine zIw rfl rfl ?_|refine zKx rfl rfl rfl ?_|refine zJz rfl rfl ?_);(refine zIx fun Q_ hQ_=>?_;simp (disch:=first|omega|(simp only [List.length_cons,List.length_nil,List.length_append];omega)) only [bb,bp,zKv,↓reduceIte,reduceCtorEq,Nat.reduceEqDiff,Nat.reduceLT,Nat.reduceLeDiff,Nat.reduceAdd,Nat.reduceMul,Nat.reduceSub,Nat.reduceBEq,Int.reduceToNat,cond_true,cond_false,eq_self,beq_self_eq_true,hl,hlo,f1,f2,go1,go2,g0,g1,g5,g9,zFx wf,zHx wf,zBv wf,zFw wf,zAy wf,zAx,tEvZ30,zIy,zIz,zHv,zHw,zAv wf];first|(refine zCw (Q:=Q_) (fun hp_=>?_) (fun hp_=>?_) <;> first|(exfalso;omega)|(refine hQ_ _ _ ?_;clear hQ_ Q_))|(refine zBw (Q:=Q_) (fun hp_=>?_) (fun hp_=>?_) <;> first|(exfalso;omega)|(refine hQ_ _ _ ?_;clear hQ_ Q_))|(refine hQ_ _ _ ?_;clear hQ_ Q_)))
  | (refine zHz fun K_ hK_=>?_;simp (disch:=omega) only [zFv,zAz,zHy,↓reduceIte,reduceCtorEq,Nat.reduceEqDiff,Nat.reduceLT];refine hK_ _ ?_;clear hK_ K_)))
          refine zOw (α:=Nat) (fun (p:Nat) f d h'=>p≤L∧(∀ j,j<p→rows k j=false)∧f 0=a∧f 1=ii (L:Int)∧f 5=vo∧f 9=ii (k:Int)∧f 10=ii (p:Int)∧d=[]∧h'=X h M w) (fun p=>L - p) ?_ (L+1) 0 (by omega) ?_
          · clear g0 g1 g5 g9
            rintro p f d h' ⟨hp,hz,g0,g1,g5,g9,g10,rfl,rfl⟩
            obtain ⟨hixb,hldb⟩:=rat.bit wf (r:=k) (j:=p) hkm hp
            by_cases hpL:p<L
            · cases hb:rows k p
              · have hld0 : ∀ w,load1 (nx h (ps k)) p (X h M w)=some (ii 0):=fun w=>by rw [hldb w,hb];rfl
                (repeat' (first
  | (with_reducible first|refine zJx ?_|refine zGw ?_|refine zFz ?_|refine zEv ?_|refine zFy ?_|refine zJw ?_|refine zGv ?_|refine zCz ?_|refine zDw ?_|refine zCy ?_|refine zCv ?_|refine zEx ?_|refine zDz ?_|refine zCx ?_|refine zBx ?_|refine zEz ?_|refine zEy ?_|refine zAw ?_|refine zBy ?_)
  | refine zDy ?_|refine zEw rfl ?_|refine zIv ?_|refine zJy ?_
  | ((first|refine zGx rfl rfl rfl rfl rfl fun K_ hK_=>?_|refine zGy rfl rfl rfl rfl rfl fun K_ hK_=>?_);simp only [zAz,zDx,zGz,↓reduceIte,reduceCtorEq,Nat.reduceEqDiff,Bool.not_true,Bool.not_false];refine hK_ _ ?_;clear hK_ K_)
  | refine zDv (by decide) ?_
  | ((try first|refine zKy rfl rfl rfl ?_|refine zIw rfl rfl ?_|refine zKx rfl rfl rfl ?_|refine zJz rfl rfl ?_);(refine zIx fun Q_ hQ_=>?_;simp (disch:=first|omega|(simp only [List.length_cons,List.length_nil,List.length_append];omega)) only [bb,bp,zKv,↓reduceIte,reduceCtorEq,Nat.reduceEqDiff,Nat.reduceLT,Nat.reduceLeDiff,Nat.reduceAdd,Nat.reduceMul,Nat.reduceSub,Nat.reduceBEq,Int.reduceToNat,cond_true,cond_false,eq_self,beq_self_eq_true,hl,hlo,f1,f2,go1,go2,g0,g1,g5,g9,g10,hixk,hldk,hck,hok,hixb,hld0,zFx wf,zHx wf,zBv wf,zFw wf,zAy wf,zAx,tEvZ30,zIy,zIz,zHv,zHw,zAv wf];first|(refine zCw (Q:=Q_) (fun hp_=>?_) (fun hp_=>?_) <;> first|(exfalso;omega)|(refine hQ_ _ _ ?_;clear hQ_ Q_))|(refine zBw (Q:=Q_) (fun hp_=>?_) (fun hp_=>?_) <;> first|(exfalso;omega)|(refine hQ_ _ _ ?_;clear hQ_ Q_))|(refine hQ_ _ _ ?_;clear hQ_ Q_)))
  | (refine zHz fun K_ hK_=>?_;simp (disch:=omega) only [zFv,zAz,zHy,↓reduceIte,reduceCtorEq,Nat.reduceEqDiff,Nat.reduceLT];refine hK_ _ ?_;clear hK_ K_)))
                exact zJv (p+1) (by omega) ⟨hpL,fun j hj=>by
                  by_cases e:j=p
                  · rw [e,hb]
                  · exact hz j (by omega),by simp only [zAz,↓reduceIte,reduceCtorEq,Nat.reduceEqDiff];exact g0,by simp only [zAz,↓reduceIte,reduceCtorEq,Nat.reduceEqDiff];exact g1,by simp only [zAz,↓reduceIte,reduceCtorEq,Nat.reduceEqDiff];exact g5,by simp only [zAz,↓reduceIte,reduceCtorEq,Nat.reduceEqDiff];exact g9,by simp only [zAz,↓reduceIte,reduceCtorEq,Nat.reduceEqDiff];rfl,rfl,rfl⟩
              · have hld1 : ∀ w,load1 (nx h (ps k)) p (X h M w)=some (ii 1):=fun w=>by rw [hldb w,hb];rfl
                (repeat' (first
  | (with_reducible first|refine zJx ?_|refine zGw ?_|refine zFz ?_|refine zEv ?_|refine zFy ?_|refine zJw ?_|refine zGv ?_|refine zCz ?_|refine zDw ?_|refine zCy ?_|refine zCv ?_|refine zEx ?_|refine zDz ?_|refine zCx ?_|refine zBx ?_|refine zEz ?_|refine zEy ?_|refine zAw ?_|refine zBy ?_)
  | refine zDy ?_|refine zEw rfl ?_|refine zIv ?_|refine zJy ?_
  | ((first|refine zGx rfl rfl rfl rfl rfl fun K_ hK_=>?_|refine zGy rfl rfl rfl rfl rfl fun K_ hK_=>?_);simp only [zAz,zDx,zGz,↓reduceIte,reduceCtorEq,Nat.reduceEqDiff,Bool.not_true,Bool.not_false];refine hK_ _ ?_;clear hK_ K_)
  | refine zDv (by decide) ?_
  | ((try first|refine zKy rfl rfl rfl ?_|refine zIw rfl rfl ?_|refine zKx rfl rfl rfl ?_|refine zJz rfl rfl ?_);(refine zIx fun Q_ hQ_=>?_;simp (disch:=first|omega|(simp only [List.length_cons,List.length_nil,List.length_append];omega)) only [bb,bp,zKv,↓reduceIte,reduceCtorEq,Nat.reduceEqDiff,Nat.reduceLT,Nat.reduceLeDiff,Nat.reduceAdd,Nat.reduceMul,Nat.reduceSub,Nat.reduceBEq,Int.reduceToNat,cond_true,cond_false,eq_self,beq_self_eq_true,hl,hlo,f1,f2,go1,go2,g0,g1,g5,g9,g10,hixk,hldk,hck,hok,hixb,hld1,zFx wf,zHx wf,zBv wf,zFw wf,zAy wf,zAx,tEvZ30,zIy,zIz,zHv,zHw,zAv wf];first|(refine zCw (Q:=Q_) (fun hp_=>?_) (fun hp_=>?_) <;> first|(exfalso;omega)|(refine hQ_ _ _ ?_;clear hQ_ Q_))|(refine zBw (Q:=Q_) (fun hp_=>?_) (fun hp_=>?_) <;> first|(exfalso;omega)|(refine hQ_ _ _ ?_;clear hQ_ Q_))|(refine hQ_ _ _ ?_;clear hQ_ Q_)))
  | (refine zHz fun K_ hK_=>?_;simp (disch:=omega) only [zFv,zAz,zHy,↓reduceIte,reduceCtorEq,Nat.reduceEqDiff,Nat.reduceLT];refine hK_ _ ?_;clear hK_ K_)))
                refine zOw (α:=Nat) (fun (r:Nat) f d h'=>k<r∧r≤m∧f 0=a∧f 1=ii (L:Int)∧f 5=vo∧f 9=ii (k:Int)∧f 10=ii (p:Int)∧f 11=ii (r:Int)∧d=[] ∧
                  ∃ M w,Ows h M io (rowVs h L m ps) vo∧RowsAt M L m ps (elimR rows k p r)∧h.clock≤w∧w≤h.clock+M.length∧h'=X h M w) (fun r=>m - r) ?_ (m+1) (k+1) (by omega) ?_
                · clear g0 g1 g5 g9 g10
                  rintro r f d h' ⟨hkr,hr,g0,g1,g5,g9,g10,g11,rfl,M,w,ows,rat,hw,hwl,rfl⟩
                  by_cases hrm:r<m
                  · obtain ⟨hixr,hldr⟩:=ows.row wf (r:=r) hrm
                    have hcr:AV.cells (rowV h L ps r)=[rowV h L ps r]:=rfl
                    have hor:oneB (rowV h L ps r)=true:=rfl
                    obtain ⟨hixc,hldc⟩:=rat.bit wf (r:=r) (j:=p) hrm hp
                    have hee:elimR rows k p r r p=rows r p:=by unfold elimR;rw [if_neg (by omega)]
                    rw [hee] at hldc
                    cases hc:rows r p
                    · have hld0 : ∀ w,load1 (nx h (ps r)) p (X h M w)=some (ii 0):=fun w=>by rw [hldc w,hc];rfl
                      (repeat' (first
  | (with_reducible first|refine zJx ?_|refine zGw ?_|refine zFz ?_|refine zEv ?_|refine zFy ?_|refine zJw ?_|refine zGv ?_|refine zCz ?_|refine zDw ?_|refine zCy ?_|refine zCv ?_|refine zEx ?_|refine zDz ?_|refine zCx ?_|refine zBx ?_|refine zEz ?_|refine zEy ?_|refine zAw ?_|refine zBy ?_)
  | refine zDy ?_|refine zEw rfl ?_|refine zIv ?_|refine zJy ?_
  | ((first|refine zGx rfl rfl rfl rfl rfl fun K_ hK_=>?_|refine zGy rfl rfl rfl rfl rfl fun K_ hK_=>?_);simp only [zAz,zDx,zGz,↓reduceIte,reduceCtorEq,Nat.reduceEqDiff,Bool.not_true,Bool.not_false];refine hK_ _ ?_;clear hK_ K_)
  | refine zDv (by decide) ?_
  | ((try first|refine zKy rfl rfl rfl ?_|refine zIw rfl rfl ?_|refine zKx rfl rfl rfl ?_|refine zJz rfl rfl ?_);(refine zIx fun Q_ hQ_=>?_;simp (disch:=first|omega|(simp only [List.length_cons,List.length_nil,List.length_append];omega)) only [bb,bp,zKv,↓reduceIte,reduceCtorEq,Nat.reduceEqDiff,Nat.reduceLT,Nat.reduceLeDiff,Nat.reduceAdd,Nat.reduceMul,Nat.reduceSub,Nat.reduceBEq,Int.reduceToNat,cond_true,cond_false,eq_self,beq_self_eq_true,hl,hlo,f1,f2,go1,go2,g0,g1,g5,g9,g10,g11,hixr,hldr,hcr,hor,hixc,hld0,zFx wf,zHx wf,zBv wf,zFw wf,zAy wf,zAx,tEvZ30,zIy,zIz,zHv,zHw,zAv wf];first|(refine zCw (Q:=Q_) (fun hp_=>?_) (fun hp_=>?_) <;> first|(exfalso;omega)|(refine hQ_ _ _ ?_;clear hQ_ Q_))|(refine zBw (Q:=Q_) (fun hp_=>?_) (fun hp_=>?_) <;> first|(exfalso;omega)|(refine hQ_ _ _ ?_;clear hQ_ Q_))|(refine hQ_ _ _ ?_;clear hQ_ Q_)))
  | (refine zHz fun K_ hK_=>?_;simp (disch:=omega) only [zFv,zAz,zHy,↓reduceIte,reduceCtorEq,Nat.reduceEqDiff,Nat.reduceLT];refine hK_ _ ?_;clear hK_ K_)))
                      exact zJv (r+1) (by omega) ⟨by omega,hrm,by simp only [zAz,↓reduceIte,reduceCtorEq,Nat.reduceEqDiff];exact g0,by simp only [zAz,↓reduceIte,reduceCtorEq,Nat.reduceEqDiff];exact g1,by simp only [zAz,↓reduceIte,reduceCtorEq,Nat.reduceEqDiff];exact g5,by simp only [zAz,↓reduceIte,reduceCtorEq,Nat.reduceEqDiff];exact g9,by simp only [zAz,↓reduceIte,reduceCtorEq,Nat.reduceEqDiff];exact g10,by simp only [zAz,↓reduceIte,reduceCtorEq,Nat.reduceEqDiff];rfl,rfl,M,w,ows,rat.congr fun q hq j hj=>elimR_skip hc q j,hw,hwl,rfl⟩
                    · have hld2 : ∀ w,load1 (nx h (ps r)) p (X h M w)=some (ii 1):=fun w=>by rw [hldc w,hc];rfl
                      (repeat' (first
  | (with_reducible first|refine zJx ?_|refine zGw ?_|refine zFz ?_|refine zEv ?_|refine zFy ?_|refine zJw ?_|refine zGv ?_|refine zCz ?_|refine zDw ?_|refine zCy ?_|refine zCv ?_|refine zEx ?_|refine zDz ?_|refine zCx ?_|refine zBx ?_|refine zEz ?_|refine zEy ?_|refine zAw ?_|refine zBy ?_)
  | refine zDy ?_|refine zEw rfl ?_|refine zIv ?_|refine zJy ?_
  | ((first|refine zGx rfl rfl rfl rfl rfl fun K_ hK_=>?_|refine zGy rfl rfl rfl rfl rfl fun K_ hK_=>?_);simp only [zAz,zDx,zGz,↓reduceIte,reduceCtorEq,Nat.reduceEqDiff,Bool.not_true,Bool.not_false];refine hK_ _ ?_;clear hK_ K_)
  | refine zDv (by decide) ?_
  | ((try first|refine zKy rfl rfl rfl ?_|refine zIw rfl rfl ?_|refine zKx rfl rfl rfl ?_|refine zJz rfl rfl ?_);(refine zIx fun Q_ hQ_=>?_;simp (disch:=first|omega|(simp only [List.length_cons,List.length_nil,List.length_append];omega)) only [bb,bp,zKv,↓reduceIte,reduceCtorEq,Nat.reduceEqDiff,Nat.reduceLT,Nat.reduceLeDiff,Nat.reduceAdd,Nat.reduceMul,Nat.reduceSub,Nat.reduceBEq,Int.reduceToNat,cond_true,cond_false,eq_self,beq_self_eq_true,hl,hlo,f1,f2,go1,go2,g0,g1,g5,g9,g10,g11,hixr,hldr,hcr,hor,hixc,hld2,zFx wf,zHx wf,zBv wf,zFw wf,zAy wf,zAx,tEvZ30,zIy,zIz,zHv,zHw,zAv wf];first|(refine zCw (Q:=Q_) (fun hp_=>?_) (fun hp_=>?_) <;> first|(exfalso;omega)|(refine hQ_ _ _ ?_;clear hQ_ Q_))|(refine zBw (Q:=Q_) (fun hp_=>?_) (fun hp_=>?_) <;> first|(exfalso;omega)|(refine hQ_ _ _ ?_;clear hQ_ Q_))|(refine hQ_ _ _ ?_;clear hQ_ Q_)))
  | (refine zHz fun K_ hK_=>?_;simp (disch:=omega) only [zFv,zAz,zHy,↓reduceIte,reduceCtorEq,Nat.reduceEqDiff,Nat.reduceLT];refine hK_ _ ?_;clear hK_ K_)))
                      refine zOw (α:=Nat) (fun (c:Nat) f d h'=>c≤L+1∧f 0=a∧f 1=ii (L:Int)∧f 5=vo∧f 9=ii (k:Int)∧f 10=ii (p:Int)∧f 11=ii (r:Int)∧f 12=ii (c:Int)∧d=[] ∧
                        ∃ M w,Ows h M io (rowVs h L m ps) vo∧RowsAt M L m ps (halfR (elimR rows k p r) k r c)∧h.clock≤w∧w≤h.clock+M.length∧h'=X h M w) (fun c=>L+1 - c) ?_ (L+2) 0 (by omega) ?_
                      · clear g0 g1 g5 g9 g10 g11
                        rintro c f d h' ⟨hcl,g0,g1,g5,g9,g10,g11,g12,rfl,M,w,ows,rat,hw,hwl,rfl⟩
                        by_cases hcL:c≤L
                        · obtain ⟨hixr,hldr⟩:=ows.row wf (r:=r) hrm
                          obtain ⟨hixk,hldk⟩:=ows.row wf (r:=k) hkm
                          obtain ⟨hix1,hld1⟩:=rat.bit wf (r:=r) (j:=c) hrm hcL
                          obtain ⟨hix2,hld2⟩:=rat.bit wf (r:=k) (j:=c) hkm hcL
                          have e1:halfR (elimR rows k p r) k r c r c=elimR rows k p r r c:=by unfold halfR;rw [if_neg (by omega)]
                          have e2:halfR (elimR rows k p r) k r c k c=elimR rows k p r k c:=by unfold halfR;rw [if_neg (by omega)]
                          rw [e1] at hld1
                          rw [e2] at hld2
                          obtain ⟨M2,rat2,hl2,hk2,hst⟩:=rat.store wf hrm hcL (elimR rows k p r r c ^^ elimR rows k p r k c)
                          have ows2:Ows h M2 io (rowVs h L m ps) vo:=ows.keep fun h0 o ho=>by
                            rw [hk2 io fun e=>((ows.type (rat.at_ r hrm)).resolve_left h0) e.symm];exact ho
                          have hadd:=add_bi (elimR rows k p r r c) (elimR rows k p r k c)
                          have n2:(2:Int)≠0:=by decide
                          have hle:(c:Int)≤(L:Int):=by omega
                          have hob:oneB (bi (elimR rows k p r r c ^^ elimR rows k p r k c))=true:=rfl
                          have hob2:AV.cells (bi (elimR rows k p r r c ^^ elimR rows k p r k c))=[bi (elimR rows k p r r c ^^ elimR rows k p r k c)]:=rfl
                          have hx0:(0:Int)≤(((elimR rows k p r r c).toNat:Nat):Int)∧(((elimR rows k p r r c).toNat:Nat):Int)≤1:=by cases elimR rows k p r r c <;> simp
                          have hy0:(0:Int)≤(((elimR rows k p r k c).toNat:Nat):Int)∧(((elimR rows k p r k c).toNat:Nat):Int)≤1:=by cases elimR rows k p r k c <;> simp
                          generalize hx1:(((elimR rows k p r r c).toNat:Nat):Int)=x1 at *
                          generalize hy1:(((elimR rows k p r k c).toNat:Nat):Int)=y1 at *
                          have hld1 : ∀ w,load1 (nx h (ps r)) c (X h M w)=some (ii x1):=fun w=>by rw [hld1 w,← hx1]
                          have hld2 : ∀ w,load1 (nx h (ps k)) c (X h M w)=some (ii y1):=fun w=>by rw [hld2 w,← hy1]
                          have hck:AV.cells (rowV h L ps k)=[rowV h L ps k]:=rfl
                          have hok:oneB (rowV h L ps k)=true:=rfl
                          (repeat' (first
  | (with_reducible first|refine zJx ?_|refine zGw ?_|refine zFz ?_|refine zEv ?_|refine zFy ?_|refine zJw ?_|refine zGv ?_|refine zCz ?_|refine zDw ?_|refine zCy ?_|refine zCv ?_|refine zEx ?_|refine zDz ?_|refine zCx ?_|refine zBx ?_|refine zEz ?_|refine zEy ?_|refine zAw ?_|refine zBy ?_)
  | refine zDy ?_|refine zEw rfl ?_|refine zIv ?_|refine zJy ?_
  | ((first|refine zGx rfl rfl rfl rfl rfl fun K_ hK_=>?_|refine zGy rfl rfl rfl rfl rfl fun K_ hK_=>?_);simp only [zAz,zDx,zGz,↓reduceIte,reduceCtorEq,Nat.reduceEqDiff,Bool.not_true,Bool.not_false];refine hK_ _ ?_;clear hK_ K_)
  | refine zDv (by decide) ?_
  | ((try first|refine zKy rfl rfl rfl ?_|refine zIw rfl rfl ?_|refine zKx rfl rfl rfl ?_|refine zJz rfl rfl ?_);(refine zIx fun Q_ hQ_=>?_;simp (disch:=first|omega|(simp only [List.length_cons,List.length_nil,List.length_append];omega)) only [bb,bp,zKv,↓reduceIte,reduceCtorEq,Nat.reduceEqDiff,Nat.reduceLT,Nat.reduceLeDiff,Nat.reduceAdd,Nat.reduceMul,Nat.reduceSub,Nat.reduceBEq,Int.reduceToNat,cond_true,cond_false,eq_self,beq_self_eq_true,hl,hlo,f1,f2,go1,go2,g0,g1,g5,g9,g10,g11,g12,zFx wf,zHx wf,zBv wf,zFw wf,zAy wf,zAx,tEvZ30,zIy,zIz,zHv,zHw,zAv wf];first|(refine zCw (Q:=Q_) (fun hp_=>?_) (fun hp_=>?_) <;> first|(exfalso;omega)|(refine hQ_ _ _ ?_;clear hQ_ Q_))|(refine zBw (Q:=Q_) (fun hp_=>?_) (fun hp_=>?_) <;> first|(exfalso;omega)|(refine hQ_ _ _ ?_;clear hQ_ Q_))|(refine hQ_ _ _ ?_;clear hQ_ Q_)))
  | (refine zHz fun K_ hK_=>?_;simp (disch:=omega) only [zFv,zAz,zHy,↓reduceIte,reduceCtorEq,Nat.reduceEqDiff,Nat.reduceLT];refine hK_ _ ?_;clear hK_ K_)))
                          refine zPy [.no,.no,.no,.no,.no,.no,.no,.no,.no,.no,.no,.no,.no,.no,.no,.no,.no,.no,.no,.no,.no,.full,.full] (by kernel_rfl) ?_
                          (repeat' (first
  | (with_reducible first|refine zJx ?_|refine zGw ?_|refine zFz ?_|refine zEv ?_|refine zFy ?_|refine zJw ?_|refine zGv ?_|refine zCz ?_|refine zDw ?_|refine zCy ?_|refine zCv ?_|refine zEx ?_|refine zDz ?_|refine zCx ?_|refine zBx ?_|refine zEz ?_|refine zEy ?_|refine zAw ?_|refine zBy ?_)
  | refine zDy ?_|refine zEw rfl ?_|refine zIv ?_|refine zJy ?_
  | ((first|refine zGx rfl rfl rfl rfl rfl fun K_ hK_=>?_|refine zGy rfl rfl rfl rfl rfl fun K_ hK_=>?_);simp only [zAz,zDx,zGz,↓reduceIte,reduceCtorEq,Nat.reduceEqDiff,Bool.not_true,Bool.not_false];refine hK_ _ ?_;clear hK_ K_)
  | refine zDv (by decide) ?_
  | ((try first|refine zKy rfl rfl rfl ?_|refine zIw rfl rfl ?_|refine zKx rfl rfl rfl ?_|refine zJz rfl rfl ?_);(refine zIx fun Q_ hQ_=>?_;simp (disch:=first|omega|(simp only [List.length_cons,List.length_nil,List.length_append];omega)) only [bb,bp,zKv,↓reduceIte,reduceCtorEq,Nat.reduceEqDiff,Nat.reduceLT,Nat.reduceLeDiff,Nat.reduceAdd,Nat.reduceMul,Nat.reduceSub,Nat.reduceBEq,Int.reduceToNat,cond_true,cond_false,eq_self,beq_self_eq_true,hl,hlo,f1,f2,go1,go2,g0,g1,g5,g9,g10,g11,g12,hixr,hldr,hixk,hldk,hcr,hor,hck,hok,hix1,hld1,hix2,hld2,wAy n2,hadd,hob,hob2,hst,zFx wf,zHx wf,tEvZ30,zIy,zIz,zHv,zHw,zAv wf];first|(refine zCw (Q:=Q_) (fun hp_=>?_) (fun hp_=>?_) <;> first|(exfalso;omega)|(refine hQ_ _ _ ?_;clear hQ_ Q_))|(refine zBw (Q:=Q_) (fun hp_=>?_) (fun hp_=>?_) <;> first|(exfalso;omega)|(refine hQ_ _ _ ?_;clear hQ_ Q_))|(refine hQ_ _ _ ?_;clear hQ_ Q_)))
  | (refine zHz fun K_ hK_=>?_;simp (disch:=omega) only [zFv,zAz,zHy,↓reduceIte,reduceCtorEq,Nat.reduceEqDiff,Nat.reduceLT];refine hK_ _ ?_;clear hK_ K_)))
                          exact zJv (c+1) (by omega) ⟨by omega,by simp only [zAz,↓reduceIte,reduceCtorEq,Nat.reduceEqDiff];exact g0,by simp only [zAz,↓reduceIte,reduceCtorEq,Nat.reduceEqDiff];exact g1,by simp only [zAz,↓reduceIte,reduceCtorEq,Nat.reduceEqDiff];exact g5,by simp only [zAz,↓reduceIte,reduceCtorEq,Nat.reduceEqDiff];exact g9,by simp only [zAz,↓reduceIte,reduceCtorEq,Nat.reduceEqDiff];exact g10,by simp only [zAz,↓reduceIte,reduceCtorEq,Nat.reduceEqDiff];exact g11,by simp only [zAz,↓reduceIte,reduceCtorEq,Nat.reduceEqDiff];rfl,rfl,M2,_,ows2,rat2.congr fun q hq j hj=>halfR_succ _ _ _ _ q j,by omega,by omega,rfl⟩
                        · have hce:c=L+1:=by omega
                          have hnle : ¬ (c:Int)≤(L:Int):=by omega
                          (repeat' (first
  | (with_reducible first|refine zJx ?_|refine zGw ?_|refine zFz ?_|refine zEv ?_|refine zFy ?_|refine zJw ?_|refine zGv ?_|refine zCz ?_|refine zDw ?_|refine zCy ?_|refine zCv ?_|refine zEx ?_|refine zDz ?_|refine zCx ?_|refine zBx ?_|refine zEz ?_|refine zEy ?_|refine zAw ?_|refine zBy ?_)
  | refine zDy ?_|refine zEw rfl ?_|refine zIv ?_|refine zJy ?_
  | ((first|refine zGx rfl rfl rfl rfl rfl fun K_ hK_=>?_|refine zGy rfl rfl rfl rfl rfl fun K_ hK_=>?_);simp only [zAz,zDx,zGz,↓reduceIte,reduceCtorEq,Nat.reduceEqDiff,Bool.not_true,Bool.not_false];refine hK_ _ ?_;clear hK_ K_)
  | refine zDv (by decide) ?_
  | ((try first|refine zKy rfl rfl rfl ?_|refine zIw rfl rfl ?_|refine zKx rfl rfl rfl ?_|refine zJz rfl rfl ?_);(refine zIx fun Q_ hQ_=>?_;simp (disch:=first|omega|(simp only [List.length_cons,List.length_nil,List.length_append];omega)) only [bb,bp,zKv,↓reduceIte,reduceCtorEq,Nat.reduceEqDiff,Nat.reduceLT,Nat.reduceLeDiff,Nat.reduceAdd,Nat.reduceMul,Nat.reduceSub,Nat.reduceBEq,Int.reduceToNat,cond_true,cond_false,eq_self,beq_self_eq_true,hl,hlo,f1,f2,go1,go2,g0,g1,g5,g9,g10,g11,g12,zFx wf,zHx wf,zBv wf,zFw wf,zAy wf,zAx,tEvZ30,zIy,zIz,zHv,zHw,zAv wf];first|(refine zCw (Q:=Q_) (fun hp_=>?_) (fun hp_=>?_) <;> first|(exfalso;omega)|(refine hQ_ _ _ ?_;clear hQ_ Q_))|(refine zBw (Q:=Q_) (fun hp_=>?_) (fun hp_=>?_) <;> first|(exfalso;omega)|(refine hQ_ _ _ ?_;clear hQ_ Q_))|(refine hQ_ _ _ ?_;clear hQ_ Q_)))
  | (refine zHz fun K_ hK_=>?_;simp (disch:=omega) only [zFv,zAz,zHy,↓reduceIte,reduceCtorEq,Nat.reduceEqDiff,Nat.reduceLT];refine hK_ _ ?_;clear hK_ K_)))
                          exact zJv (r+1) (by omega) ⟨by omega,hrm,by simp only [zAz,↓reduceIte,reduceCtorEq,Nat.reduceEqDiff];exact g0,by simp only [zAz,↓reduceIte,reduceCtorEq,Nat.reduceEqDiff];exact g1,by simp only [zAz,↓reduceIte,reduceCtorEq,Nat.reduceEqDiff];exact g5,by simp only [zAz,↓reduceIte,reduceCtorEq,Nat.reduceEqDiff];exact g9,by simp only [zAz,↓reduceIte,reduceCtorEq,Nat.reduceEqDiff];exact g10,by simp only [zAz,↓reduceIte,reduceCtorEq,Nat.reduceEqDiff];rfl,rfl,M,w,ows,rat.congr fun q hq j hj=>elimR_half hkr hc (by omega) q hj,hw,hwl,rfl⟩
                      · exact ⟨Nat.zero_le _,by simp only [zAz,↓reduceIte,reduceCtorEq,Nat.reduceEqDiff];exact g0,by simp only [zAz,↓reduceIte,reduceCtorEq,Nat.reduceEqDiff];exact g1,by simp only [zAz,↓reduceIte,reduceCtorEq,Nat.reduceEqDiff];exact g5,by simp only [zAz,↓reduceIte,reduceCtorEq,Nat.reduceEqDiff];exact g9,by simp only [zAz,↓reduceIte,reduceCtorEq,Nat.reduceEqDiff];exact g10,by simp only [zAz,↓reduceIte,reduceCtorEq,Nat.reduceEqDiff];exact g11,by simp only [zAz,↓reduceIte,reduceCtorEq,Nat.reduceEqDiff];rfl,rfl,M,w,ows,rat.congr fun q hq j hj=>by unfold halfR;rw [if_neg (by omega)],hw,hwl,rfl⟩
                  · have hre:r=m:=by omega
                    subst hre
                    (repeat' (first
  | (with_reducible first|refine zJx ?_|refine zGw ?_|refine zFz ?_|refine zEv ?_|refine zFy ?_|refine zJw ?_|refine zGv ?_|refine zCz ?_|refine zDw ?_|refine zCy ?_|refine zCv ?_|refine zEx ?_|refine zDz ?_|refine zCx ?_|refine zBx ?_|refine zEz ?_|refine zEy ?_|refine zAw ?_|refine zBy ?_)
  | refine zDy ?_|refine zEw rfl ?_|refine zIv ?_|refine zJy ?_
  | ((first|refine zGx rfl rfl rfl rfl rfl fun K_ hK_=>?_|refine zGy rfl rfl rfl rfl rfl fun K_ hK_=>?_);simp only [zAz,zDx,zGz,↓reduceIte,reduceCtorEq,Nat.reduceEqDiff,Bool.not_true,Bool.not_false];refine hK_ _ ?_;clear hK_ K_)
  | refine zDv (by decide) ?_
  | ((try first|refine zKy rfl rfl rfl ?_|refine zIw rfl rfl ?_|refine zKx rfl rfl rfl ?_|refine zJz rfl rfl ?_);(refine zIx fun Q_ hQ_=>?_;simp (disch:=first|omega|(simp only [List.length_cons,List.length_nil,List.length_append];omega)) only [bb,bp,zKv,↓reduceIte,reduceCtorEq,Nat.reduceEqDiff,Nat.reduceLT,Nat.reduceLeDiff,Nat.reduceAdd,Nat.reduceMul,Nat.reduceSub,Nat.reduceBEq,Int.reduceToNat,cond_true,cond_false,eq_self,beq_self_eq_true,hl,hlo,f1,f2,go1,go2,g0,g1,g5,g9,g10,g11,zFx wf,zHx wf,zBv wf,zFw wf,zAy wf,zAx,tEvZ30,zIy,zIz,zHv,zHw,zAv wf];first|(refine zCw (Q:=Q_) (fun hp_=>?_) (fun hp_=>?_) <;> first|(exfalso;omega)|(refine hQ_ _ _ ?_;clear hQ_ Q_))|(refine zBw (Q:=Q_) (fun hp_=>?_) (fun hp_=>?_) <;> first|(exfalso;omega)|(refine hQ_ _ _ ?_;clear hQ_ Q_))|(refine hQ_ _ _ ?_;clear hQ_ Q_)))
  | (refine zHz fun K_ hK_=>?_;simp (disch:=omega) only [zFv,zAz,zHy,↓reduceIte,reduceCtorEq,Nat.reduceEqDiff,Nat.reduceLT];refine hK_ _ ?_;clear hK_ K_)))
                    exact zJv (k+1) (by omega) ⟨hkm,by simp only [zAz,↓reduceIte,reduceCtorEq,Nat.reduceEqDiff];exact g0,by simp only [zAz,↓reduceIte,reduceCtorEq,Nat.reduceEqDiff];exact g1,by simp only [zAz,↓reduceIte,reduceCtorEq,Nat.reduceEqDiff];exact g5,by simp only [zAz,↓reduceIte,reduceCtorEq,Nat.reduceEqDiff];rfl,rfl,M,elimR rows k p r,w,ows,rat,hso.trans (sol_elim hkm hpL hb fun q h1 h2 j hj=>by
                      unfold elimR
                      by_cases e:rows q p=true
                      · rw [if_pos ⟨h1,h2,e⟩,if_pos e]
                      · rw [if_neg fun x=>e x.2.2,if_neg e]),hw,hwl,rfl⟩
                · exact ⟨by omega,by omega,by simp only [zAz,↓reduceIte,reduceCtorEq,Nat.reduceEqDiff];exact g0,by simp only [zAz,↓reduceIte,reduceCtorEq,Nat.reduceEqDiff];exact g1,by simp only [zAz,↓reduceIte,reduceCtorEq,Nat.reduceEqDiff];exact g5,by simp only [zAz,↓reduceIte,reduceCtorEq,Nat.reduceEqDiff];exact g9,by simp only [zAz,↓reduceIte,reduceCtorEq,Nat.reduceEqDiff];exact g10,by simp only [zAz,↓reduceIte,reduceCtorEq,Nat.reduceEqDiff];rfl,rfl,M,w,ows,rat.congr fun q hq j hj=>by unfold elimR;rw [if_neg (by omega)],hw,hwl,rfl⟩
            · have hpe:p=L:=by omega
              cases hb:rows k p
              · have hld0 : ∀ w,load1 (nx h (ps k)) p (X h M w)=some (ii 0):=fun w=>by rw [hldb w,hb];rfl
                subst hpe
                (repeat' (first
  | (with_reducible first|refine zJx ?_|refine zGw ?_|refine zFz ?_|refine zEv ?_|refine zFy ?_|refine zJw ?_|refine zGv ?_|refine zCz ?_|refine zDw ?_|refine zCy ?_|refine zCv ?_|refine zEx ?_|refine zDz ?_|refine zCx ?_|refine zBx ?_|refine zEz ?_|refine zEy ?_|refine zAw ?_|refine zBy ?_)
  | refine zDy ?_|refine zEw rfl ?_|refine zIv ?_|refine zJy ?_
  | ((first|refine zGx rfl rfl rfl rfl rfl fun K_ hK_=>?_|refine zGy rfl rfl rfl rfl rfl fun K_ hK_=>?_);simp only [zAz,zDx,zGz,↓reduceIte,reduceCtorEq,Nat.reduceEqDiff,Bool.not_true,Bool.not_false];refine hK_ _ ?_;clear hK_ K_)
  | refine zDv (by decide) ?_
  | ((try first|refine zKy rfl rfl rfl ?_|refine zIw rfl rfl ?_|refine zKx rfl rfl rfl ?_|refine zJz rfl rfl ?_);(refine zIx fun Q_ hQ_=>?_;simp (disch:=first|omega|(simp only [List.length_cons,List.length_nil,List.length_append];omega)) only [bb,bp,zKv,↓reduceIte,reduceCtorEq,Nat.reduceEqDiff,Nat.reduceLT,Nat.reduceLeDiff,Nat.reduceAdd,Nat.reduceMul,Nat.reduceSub,Nat.reduceBEq,Int.reduceToNat,cond_true,cond_false,eq_self,beq_self_eq_true,hl,hlo,f1,f2,go1,go2,g0,g1,g5,g9,g10,hixk,hldk,hck,hok,hixb,hld0,zFx wf,zHx wf,zBv wf,zFw wf,zAy wf,zAx,tEvZ30,zIy,zIz,zHv,zHw,zAv wf];first|(refine zCw (Q:=Q_) (fun hp_=>?_) (fun hp_=>?_) <;> first|(exfalso;omega)|(refine hQ_ _ _ ?_;clear hQ_ Q_))|(refine zBw (Q:=Q_) (fun hp_=>?_) (fun hp_=>?_) <;> first|(exfalso;omega)|(refine hQ_ _ _ ?_;clear hQ_ Q_))|(refine hQ_ _ _ ?_;clear hQ_ Q_)))
  | (refine zHz fun K_ hK_=>?_;simp (disch:=omega) only [zFv,zAz,zHy,↓reduceIte,reduceCtorEq,Nat.reduceEqDiff,Nat.reduceLT];refine hK_ _ ?_;clear hK_ K_)))
                exact zJv (k+1) (by omega) ⟨hkm,by simp only [zAz,↓reduceIte,reduceCtorEq,Nat.reduceEqDiff];exact g0,by simp only [zAz,↓reduceIte,reduceCtorEq,Nat.reduceEqDiff];exact g1,by simp only [zAz,↓reduceIte,reduceCtorEq,Nat.reduceEqDiff];exact g5,by simp only [zAz,↓reduceIte,reduceCtorEq,Nat.reduceEqDiff];rfl,rfl,M,rows,w,ows,rat,hso.trans ⟨fun x=>((sol_none hkm hz).1 x).2,fun x=>(sol_none hkm hz).2 ⟨hb,x⟩⟩,hw,hwl,rfl⟩
              · have hld1 : ∀ w,load1 (nx h (ps k)) p (X h M w)=some (ii 1):=fun w=>by rw [hldb w,hb];rfl
                subst hpe
                (repeat' (first
  | (with_reducible first|refine zJx ?_|refine zGw ?_|refine zFz ?_|refine zEv ?_|refine zFy ?_|refine zJw ?_|refine zGv ?_|refine zCz ?_|refine zDw ?_|refine zCy ?_|refine zCv ?_|refine zEx ?_|refine zDz ?_|refine zCx ?_|refine zBx ?_|refine zEz ?_|refine zEy ?_|refine zAw ?_|refine zBy ?_)
  | refine zDy ?_|refine zEw rfl ?_|refine zIv ?_|refine zJy ?_
  | ((first|refine zGx rfl rfl rfl rfl rfl fun K_ hK_=>?_|refine zGy rfl rfl rfl rfl rfl fun K_ hK_=>?_);simp only [zAz,zDx,zGz,↓reduceIte,reduceCtorEq,Nat.reduceEqDiff,Bool.not_true,Bool.not_false];refine hK_ _ ?_;clear hK_ K_)
  | refine zDv (by decide) ?_
  | ((try first|refine zKy rfl rfl rfl ?_|refine zIw rfl rfl ?_|refine zKx rfl rfl rfl ?_|refine zJz rfl rfl ?_);(refine zIx fun Q_ hQ_=>?_;simp (disch:=first|omega|(simp only [List.length_cons,List.length_nil,List.length_append];omega)) only [bb,bp,zKv,↓reduceIte,reduceCtorEq,Nat.reduceEqDiff,Nat.reduceLT,Nat.reduceLeDiff,Nat.reduceAdd,Nat.reduceMul,Nat.reduceSub,Nat.reduceBEq,Int.reduceToNat,cond_true,cond_false,eq_self,beq_self_eq_true,hl,hlo,f1,f2,go1,go2,g0,g1,g5,g9,g10,hixk,hldk,hck,hok,hixb,hld1,zFx wf,zHx wf,zBv wf,zFw wf,zAy wf,zAx,tEvZ30,zIy,zIz,zHv,zHw,zAv wf];first|(refine zCw (Q:=Q_) (fun hp_=>?_) (fun hp_=>?_) <;> first|(exfalso;omega)|(refine hQ_ _ _ ?_;clear hQ_ Q_))|(refine zBw (Q:=Q_) (fun hp_=>?_) (fun hp_=>?_) <;> first|(exfalso;omega)|(refine hQ_ _ _ ?_;clear hQ_ Q_))|(refine hQ_ _ _ ?_;clear hQ_ Q_)))
  | (refine zHz fun K_ hK_=>?_;simp (disch:=omega) only [zFv,zAz,zHy,↓reduceIte,reduceCtorEq,Nat.reduceEqDiff,Nat.reduceLT];refine hK_ _ ?_;clear hK_ K_)))
                (refine zKw _ _ rfl (ret1 (by decide)) ?_;simp only [zAz,↓reduceIte,reduceCtorEq,Nat.reduceEqDiff];refine zLy rfl (by omega) ?_)
                refine ⟨false,⟨fun x=>Bool.noConfusion x,fun x=>?_⟩,rfl,rfl⟩
                have:=((sol_none hkm hz).1 (hso.1 (hsol.2 x))).1
                rw [hb] at this
                exact Bool.noConfusion this
          · exact ⟨Nat.zero_le _,fun j hj=>absurd hj (Nat.not_lt_zero j),by simp only [zAz,↓reduceIte,reduceCtorEq,Nat.reduceEqDiff];exact g0,by simp only [zAz,↓reduceIte,reduceCtorEq,Nat.reduceEqDiff];exact g1,by simp only [zAz,↓reduceIte,reduceCtorEq,Nat.reduceEqDiff];exact g5,by simp only [zAz,↓reduceIte,reduceCtorEq,Nat.reduceEqDiff];exact g9,by simp only [zAz,↓reduceIte,reduceCtorEq,Nat.reduceEqDiff];rfl,rfl,rfl⟩
        · have hke:k=m:=by omega
          subst hke
          (repeat' (first
  | (with_reducible first|refine zJx ?_|refine zGw ?_|refine zFz ?_|refine zEv ?_|refine zFy ?_|refine zJw ?_|refine zGv ?_|refine zCz ?_|refine zDw ?_|refine zCy ?_|refine zCv ?_|refine zEx ?_|refine zDz ?_|refine zCx ?_|refine zBx ?_|refine zEz ?_|refine zEy ?_|refine zAw ?_|refine zBy ?_)
  | refine zDy ?_|refine zEw rfl ?_|refine zIv ?_|refine zJy ?_
  | ((first|refine zGx rfl rfl rfl rfl rfl fun K_ hK_=>?_|refine zGy rfl rfl rfl rfl rfl fun K_ hK_=>?_);simp only [zAz,zDx,zGz,↓reduceIte,reduceCtorEq,Nat.reduceEqDiff,Bool.not_true,Bool.not_false];refine hK_ _ ?_;clear hK_ K_)
  | refine zDv (by decide) ?_
  | ((try first|refine zKy rfl rfl rfl ?_|refine zIw rfl rfl ?_|refine zKx rfl rfl rfl ?_|refine zJz rfl rfl ?_);(refine zIx fun Q_ hQ_=>?_;simp (disch:=first|omega|(simp only [List.length_cons,List.length_nil,List.length_append];omega)) only [bb,bp,zKv,↓reduceIte,reduceCtorEq,Nat.reduceEqDiff,Nat.reduceLT,Nat.reduceLeDiff,Nat.reduceAdd,Nat.reduceMul,Nat.reduceSub,Nat.reduceBEq,Int.reduceToNat,cond_true,cond_false,eq_self,beq_self_eq_true,hl,hlo,f1,f2,go1,go2,g0,g1,g5,g9,zFx wf,zHx wf,zBv wf,zFw wf,zAy wf,zAx,tEvZ30,zIy,zIz,zHv,zHw,zAv wf];first|(refine zCw (Q:=Q_) (fun hp_=>?_) (fun hp_=>?_) <;> first|(exfalso;omega)|(refine hQ_ _ _ ?_;clear hQ_ Q_))|(refine zBw (Q:=Q_) (fun hp_=>?_) (fun hp_=>?_) <;> first|(exfalso;omega)|(refine hQ_ _ _ ?_;clear hQ_ Q_))|(refine hQ_ _ _ ?_;clear hQ_ Q_)))
  | (refine zHz fun K_ hK_=>?_;simp (disch:=omega) only [zFv,zAz,zHy,↓reduceIte,reduceCtorEq,Nat.reduceEqDiff,Nat.reduceLT];refine hK_ _ ?_;clear hK_ K_)))
          (refine zKw _ _ rfl (ret1 (by decide)) ?_;simp only [zAz,↓reduceIte,reduceCtorEq,Nat.reduceEqDiff];refine zLy rfl (by omega) ?_)
          exact ⟨true,⟨fun _=>hsol.1 (hso.2 ⟨fun _=>false,fun r h1 h2=>by omega⟩),fun _=>rfl⟩,rfl,rfl⟩
      · exact ⟨Nat.zero_le _,by simp only [zAz,↓reduceIte,reduceCtorEq,Nat.reduceEqDiff];exact g0,by simp only [zAz,↓reduceIte,reduceCtorEq,Nat.reduceEqDiff];exact g1,by simp only [zAz,↓reduceIte,reduceCtorEq,Nat.reduceEqDiff];exact g5,by simp only [zAz,↓reduceIte,reduceCtorEq,Nat.reduceEqDiff];rfl,rfl,M,eqs L s,w,ows,rat,Iff.rfl,hw,hwl,rfl⟩
  · exact ⟨Nat.le_refl _,hL,by simp only [zAz,↓reduceIte,reduceCtorEq,Nat.reduceEqDiff],by simp only [zAz,↓reduceIte,reduceCtorEq,Nat.reduceEqDiff],by simp only [zAz,↓reduceIte,reduceCtorEq,Nat.reduceEqDiff];try rfl,rfl,[],.nils,0,fun _=>0,h.clock,by simp only [zAz,↓reduceIte,reduceCtorEq,Nat.reduceEqDiff],.inl ⟨by rw [Nat.sub_self];rfl,rfl⟩,⟨fun r hr=>by omega,fun r r' hr=>by omega⟩,Nat.le_refl _,Nat.le_refl _,rfl⟩
end Go.Proofs.Ytmincoafjnnkpaa
end

section
namespace Go.Proofs.Ytmincoafjnnkpaa
open Go.Ev
set_option maxRecDepth 100000
set_option linter.unusedSimpArgs false
set_option linter.unusedVariables false
set_option maxHeartbeats 2000000
theorem tEvZ20 :type_of% (And.intro (And.intro (And.intro (And.intro (And.intro (And.intro (And.intro (@yQx) (@yQy)) (And.intro (@yQz) (@yPv))) (And.intro (And.intro (@yPw) (@yPx)) (And.intro (@ia_2) (And.intro (@ia_3) (@ia_4))))) (And.intro (And.intro (And.intro (@ia_5) (@yPy)) (And.intro (@yPz) (@yOv))) (And.intro (And.intro (@yOw) (@yOx)) (And.intro (@yOy) (And.intro (@zRv) (@yOz)))))) (And.intro (And.intro (And.intro (And.intro (@yNv) (@yNw)) (And.intro (@yNx) (@yNy))) (And.intro (And.intro (@yNz) (@yMv)) (And.intro (@yMw) (And.intro (@yMx) (@sz_2))))) (And.intro (And.intro (And.intro (@sz_3) (@sz_4)) (And.intro (@sz_5) (And.intro (@zQv) (@zYw)))) (And.intro (And.intro (@zYx) (@zYy)) (And.intro (@zYz) (And.intro (@zXv) (@zRx))))))) (And.intro (And.intro (And.intro (And.intro (And.intro (@zXw) (@zXx)) (And.intro (@zXy) (@zQx))) (And.intro (And.intro (@zXz) (@zWv)) (And.intro (@zWw) (And.intro (@zWx) (@zWy))))) (And.intro (And.intro (And.intro (@ze_2) (@ze_3)) (And.intro (@ze_4) (And.intro (@ze_5) (@zWz)))) (And.intro (And.intro (@zVv) (@zVw)) (And.intro (@zVx) (And.intro (@zVy) (@zVz)))))) (And.intro (And.intro (And.intro (And.intro (@zUv) (@zUw)) (And.intro (@zUx) (@zUy))) (And.intro (And.intro (@zUz) (@zTv)) (And.intro (@zTw) (And.intro (@zTx) (@zTy))))) (And.intro (And.intro (And.intro (@zOy) (@zOz)) (And.intro (@zNv) (And.intro (@zNw) (@zNx)))) (And.intro (And.intro (@zNy) (@zNz)) (And.intro (@zMv) (And.intro (@zMw) (@yMy)))))))) (And.intro (And.intro (And.intro (And.intro (And.intro (And.intro (@yMz) (@yLv)) (And.intro (@yLw) (@yLx))) (And.intro (And.intro (@yLy) (@yLz)) (And.intro (@yKv) (And.intro (@yKw) (@yKx))))) (And.intro (And.intro (And.intro (@yKy) (@yKz)) (And.intro (@yJv) (@yJw))) (And.intro (And.intro (@yJx) (@yJy)) (And.intro (@yJz) (And.intro (@yIv) (@yIw)))))) (And.intro (And.intro (And.intro (And.intro (@yIx) (@yIy)) (And.intro (@yIz) (@yHv))) (And.intro (And.intro (@yHw) (@yHx)) (And.intro (@yHy) (And.intro (@yHz) (@yGv))))) (And.intro (And.intro (And.intro (@yGw) (@yGx)) (And.intro (@yGy) (And.intro (@yGz) (@yFv)))) (And.intro (And.intro (@yFw) (@yFx)) (And.intro (@yFy) (And.intro (@yFz) (@yEv))))))) (And.intro (And.intro (And.intro (And.intro (And.intro (@yEw) (@yEx)) (And.intro (@yEy) (@yEz))) (And.intro (And.intro (@yDv) (@yDw)) (And.intro (@yDx) (And.intro (@yDy) (@yDz))))) (And.intro (And.intro (And.intro (@yCv) (@yCw)) (And.intro (@yCx) (And.intro (@yCy) (@yCz)))) (And.intro (And.intro (@zSz) (@yBv)) (And.intro (@yBw) (And.intro (@yBx) (@yBy)))))) (And.intro (And.intro (And.intro (And.intro (@yBz) (@yAv)) (And.intro (@yAw) (@yAx))) (And.intro (And.intro (@yAy) (@yAz)) (And.intro (@zZv) (And.intro (@zZw) (@zZx))))) (And.intro (And.intro (And.intro (@zZy) (@zZz)) (And.intro (@zQy) (And.intro (@zSv) (@zSw)))) (And.intro (And.intro (@zQw) (@zSx)) (And.intro (@zRy) (And.intro (@zSy) (@zRw))))))))):=And.intro (And.intro (And.intro (And.intro (And.intro (And.intro (And.intro (@yQx) (@yQy)) (And.intro (@yQz) (@yPv))) (And.intro (And.intro (@yPw) (@yPx)) (And.intro (@ia_2) (And.intro (@ia_3) (@ia_4))))) (And.intro (And.intro (And.intro (@ia_5) (@yPy)) (And.intro (@yPz) (@yOv))) (And.intro (And.intro (@yOw) (@yOx)) (And.intro (@yOy) (And.intro (@zRv) (@yOz)))))) (And.intro (And.intro (And.intro (And.intro (@yNv) (@yNw)) (And.intro (@yNx) (@yNy))) (And.intro (And.intro (@yNz) (@yMv)) (And.intro (@yMw) (And.intro (@yMx) (@sz_2))))) (And.intro (And.intro (And.intro (@sz_3) (@sz_4)) (And.intro (@sz_5) (And.intro (@zQv) (@zYw)))) (And.intro (And.intro (@zYx) (@zYy)) (And.intro (@zYz) (And.intro (@zXv) (@zRx))))))) (And.intro (And.intro (And.intro (And.intro (And.intro (@zXw) (@zXx)) (And.intro (@zXy) (@zQx))) (And.intro (And.intro (@zXz) (@zWv)) (And.intro (@zWw) (And.intro (@zWx) (@zWy))))) (And.intro (And.intro (And.intro (@ze_2) (@ze_3)) (And.intro (@ze_4) (And.intro (@ze_5) (@zWz)))) (And.intro (And.intro (@zVv) (@zVw)) (And.intro (@zVx) (And.intro (@zVy) (@zVz)))))) (And.intro (And.intro (And.intro (And.intro (@zUv) (@zUw)) (And.intro (@zUx) (@zUy))) (And.intro (And.intro (@zUz) (@zTv)) (And.intro (@zTw) (And.intro (@zTx) (@zTy))))) (And.intro (And.intro (And.intro (@zOy) (@zOz)) (And.intro (@zNv) (And.intro (@zNw) (@zNx)))) (And.intro (And.intro (@zNy) (@zNz)) (And.intro (@zMv) (And.intro (@zMw) (@yMy)))))))) (And.intro (And.intro (And.intro (And.intro (And.intro (And.intro (@yMz) (@yLv)) (And.intro (@yLw) (@yLx))) (And.intro (And.intro (@yLy) (@yLz)) (And.intro (@yKv) (And.intro (@yKw) (@yKx))))) (And.intro (And.intro (And.intro (@yKy) (@yKz)) (And.intro (@yJv) (@yJw))) (And.intro (And.intro (@yJx) (@yJy)) (And.intro (@yJz) (And.intro (@yIv) (@yIw)))))) (And.intro (And.intro (And.intro (And.intro (@yIx) (@yIy)) (And.intro (@yIz) (@yHv))) (And.intro (And.intro (@yHw) (@yHx)) (And.intro (@yHy) (And.intro (@yHz) (@yGv))))) (And.intro (And.intro (And.intro (@yGw) (@yGx)) (And.intro (@yGy) (And.intro (@yGz) (@yFv)))) (And.intro (And.intro (@yFw) (@yFx)) (And.intro (@yFy) (And.intro (@yFz) (@yEv))))))) (And.intro (And.intro (And.intro (And.intro (And.intro (@yEw) (@yEx)) (And.intro (@yEy) (@yEz))) (And.intro (And.intro (@yDv) (@yDw)) (And.intro (@yDx) (And.intro (@yDy) (@yDz))))) (And.intro (And.intro (And.intro (@yCv) (@yCw)) (And.intro (@yCx) (And.intro (@yCy) (@yCz)))) (And.intro (And.intro (@zSz) (@yBv)) (And.intro (@yBw) (And.intro (@yBx) (@yBy)))))) (And.intro (And.intro (And.intro (And.intro (@yBz) (@yAv)) (And.intro (@yAw) (@yAx))) (And.intro (And.intro (@yAy) (@yAz)) (And.intro (@zZv) (And.intro (@zZw) (@zZx))))) (And.intro (And.intro (And.intro (@zZy) (@zZz)) (And.intro (@zQy) (And.intro (@zSv) (@zSw)))) (And.intro (And.intro (@zQw) (@zSx)) (And.intro (@zRy) (And.intro (@zSy) (@zRw))))))))
def profOf (l:List Att):List Nat:=l.foldl (fun P a=>P++List.replicate ((a.at_+1).toNat - P.length) a.L) []
theorem xEv (l:List Att) (a:Att):profOf (l++[a])=profOf l++List.replicate ((a.at_+1).toNat - (profOf l).length) a.L:=by unfold profOf;rw [List.foldl_append];rfl
theorem chain_prof {s:Nat→Bool} {l:List Att} {T L p:Nat} {prof:List Nat} (h:Chain s l T L p prof):profOf l=prof:=by
  induction h with
  | nil=>rfl
  | @snoc l T L p q prof hc hpq w hq ih=>
    rw [xEv,ih,hc.facts.len]
    congr 2
theorem chain_max {s:Nat→Bool} {l:List Att} {T L p q:Nat} {prof:List Nat} (h:Chain s l T L p prof) (hpq:p≤q) (w:Wrong T L s q):max L ((bestA l).L+((q:Int) - (bestA l).at_).toNat)=max L (q+1 - L):=by
  obtain ⟨ne,lt,le,p_le,cx,makes,best,by_,len,prof_,mono⟩:=h.facts
  have hbB:(bestA l).bound=(bestA l).at_+1 - ((bestA l).L:Int):=rfl
  have hlq:=w.le
  have:(bestA l).at_<(q:Int):=by
    rcases by_ with h|⟨_,q',h,h2,_⟩
    · rw [h];show (-1:Int)<_;omega
    · omega
  omega
def Jumps (P:List Nat):Prop:=∀ (k u v:Nat),P[k]? = some u→P[k+1]? = some v→v=u∨v+u=k+1
theorem chain_jumps {s:Nat→Bool} {l:List Att} {T L p:Nat} {prof:List Nat} (h:Chain s l T L p prof):Jumps prof ∧ ∀ u,0<p→prof[p - 1]? = some u→L=u∨L+u=p:=by
  induction h with
  | nil=>exact ⟨fun k u v h=>by simp at h,fun u h=>by omega⟩
  | @snoc l T L p q prof hc hpq w hq ih=>
    have hmx:=chain_max hc hpq w
    have hlen:=hc.facts.len
    obtain ⟨j1,j2⟩:=ih
    have hget : ∀ k,p≤k → ∀ v,(prof++List.replicate (q+1 - p) L)[k]? = some v→v=L:=fun k hk v hv=>by
      rw [List.getElem?_append_right (by omega),List.getElem?_replicate] at hv
      split at hv
      · cases hv;rfl
      · cases hv
    have hlow : ∀ k,k<p→(prof++List.replicate (q+1 - p) L)[k]? = prof[k]?:=fun k hk=>List.getElem?_append_left (by omega)
    refine ⟨fun k u v hu hv=>?_,fun u _ hu=>?_⟩
    · by_cases h1:k+1<p
      · rw [hlow _ (by omega)] at hu
        rw [hlow _ h1] at hv
        exact j1 k u v hu hv
      · have hv2:=hget (k+1) (by omega) v hv
        by_cases h2:k<p
        · rw [hlow _ h2] at hu
          have h3:k=p - 1:=by omega
          rw [h3] at hu
          rcases j2 u (by omega) hu with h|h
          · exact .inl (by omega)
          · exact .inr (by omega)
        · have hu2:=hget k (by omega) u hu
          exact .inl (by omega)
    · have:=hget (q+1 - 1) (by omega) u hu
      have hlq:=w.le
      rw [hmx]
      omega
structure ProfOK (s:Nat→Bool) (n:Nat) (F:List Nat):Prop where
  len:F.length=n+1
  cx : ∀ k,k≤n → ∃ Lk:Nat,F[k]? = some Lk∧Cpx s k Lk
  jumps:Jumps F
  le : ∀ (k u:Nat),F[k]? = some u→u≤n
theorem prof_ok {s:Nat→Bool} {l:List Att} {T L p n:Nat} {prof:List Nat} (h:Chain s l T L p prof) (hp:p≤n) (hm:Makes T L s n):profOf (l++[⟨T,L,(n:Int)⟩])=prof++List.replicate (n+1 - p) L∧ProfOK s n (prof++List.replicate (n+1 - p) L):=by
  have hf:=h.facts
  have hlen:=hf.len
  obtain ⟨j1,j2⟩:=chain_jumps h
  have hLn:L≤n:=by have:=hf.le;omega
  have hget : ∀ k,p≤k → ∀ v,(prof++List.replicate (n+1 - p) L)[k]? = some v→v=L:=fun k hk v hv=>by
    rw [List.getElem?_append_right (by omega),List.getElem?_replicate] at hv
    split at hv
    · cases hv;rfl
    · cases hv
  have hlow : ∀ k,k<p→(prof++List.replicate (n+1 - p) L)[k]? = prof[k]?:=fun k hk=>List.getElem?_append_left (by omega)
  refine ⟨?_,by rw [List.length_append,List.length_replicate];omega,fun k hk=>?_,fun k u v hu hv=>?_,fun k u hu=>?_⟩
  · rw [xEv,chain_prof h,hlen]
    congr 2
  · by_cases h1:k<p
    · rw [hlow k h1];exact hf.prof_ k h1
    · exact ⟨L,by rw [List.getElem?_append_right (by omega),List.getElem?_replicate,if_pos (by omega)],⟨⟨T,hf.lt,hm.less hk⟩,fun T' L' h'=>hf.cx.least T' L' (h'.less (by omega))⟩⟩
  · by_cases h1:k+1<p
    · rw [hlow _ (by omega)] at hu
      rw [hlow _ h1] at hv
      exact j1 k u v hu hv
    · have hv2:=hget (k+1) (by omega) v hv
      by_cases h2:k<p
      · rw [hlow _ h2] at hu
        have h3:k=p - 1:=by omega
        rw [h3] at hu
        rcases j2 u (by omega) hu with h|h
        · exact .inl (by omega)
        · exact .inr (by omega)
      · have hu2:=hget k (by omega) u hu
        exact .inl (by omega)
  · by_cases h1:k<p
    · rw [hlow k h1] at hu
      have:=hf.mono k u hu
      omega
    · have:=hget k (by omega) u hu
      omega
theorem AttsAt.get {h:H} (wf:Wf h) {M:List AO} {idx:Nat} {l:List Att} {v:AV} (x:AttsAt h M idx l v) {i:Nat} (hi:i<l.length):indexAddrE Try.prog 63 v (.int .i64 (i:Int))=some (.ptr (nx h idx) (i * 4)) ∧ ∀ J w,loadAgg (nx h idx) (i * 4) (some 4) (X h (M++J) w)=some (.agg (attC l[i])):=by
  have hia:indexAddrE Try.prog 63 v (.int .i64 (i:Int))=some (.ptr (nx h idx) (i * 4)):=by
    obtain ⟨cap,rfl,_,_⟩:=x
    have ht:toNatE (.int .i64 (i:Int))=some i:=by rw [yVv (by omega),Int.toNat_natCast]
    simp only [yQv,ht,zQw,yVz hi,Nat.zero_add]
  refine ⟨hia,fun J w=>?_⟩
  obtain ⟨id,off,hix,hld⟩:=((x.more J).sl wf h.clock).at (wf.X (by omega)) hi zQw
  rw [hia] at hix
  cases hix
  have h1:=(hld [] w).2
  rw [X_X,List.append_nil,flat_at xAx hi] at h1
  exact h1
abbrev ni (k:Nat):AV:=ii (k:Int)
theorem profile (xs:List Int) (he:errB xs=0) (a:AV) (hc:CapU 1 a) (h:H) (wf:Wf h) (hs:Sl h a 1 xs.length (xs.map ii)) :
    ∃ F v M,ProfOK (sq (bitL xs)) xs.length F∧CapU 1 v∧(∀ J w,Sl (X h (M++J) w) v 1 F.length (F.map ni))∧(om Try.prog KK).call (.fn 23 [a]) h = .ok (.tup [v,ii 0]) (X h M h.w):=by
  suffices hW:WV ((om Try.prog KK).call (.fn 23 [a]) h) fun r h'=>∃ F v M,ProfOK (sq (bitL xs)) xs.length F∧CapU 1 v∧(∀ J w,Sl (X h (M++J) w) v 1 F.length (F.map ni))∧r = .tup [v,ii 0]∧h'=X h M h.w by
    obtain ⟨r,h',e,F,v,M,h1,h2,h3,rfl,rfl⟩:=hW
    exact ⟨F,v,M,h1,h2,h3,e⟩
  obtain ⟨hx1,hx2⟩:=xHy he
  have hxl:=zLz xs
  have hs':Sl h a 1 (bitL xs).length ((bitL xs).map bi):=by rw [zLz,← hx2];exact hs
  have hl : ∀ h',lenE Try.prog 22 a h'=some (ii (xs.length:Int)):=fun h'=>hs.len yTx
  obtain ⟨f1,f2⟩:=zPv hs
  have c1 : ∀ (l:List AO) (w:Nat),w≤h.clock+l.length→(om Try.prog KK).call (.fn 18 [a]) (X h l w) = .ok (ii 0) (X h l w):=fun l w hw=>by rw [checkBits xs a _ (wf.X hw) (hs.up wf l w),he]
  obtain ⟨l,T,L,p,prof,v,M,idx,hch,hp,hm,hat,e⟩:=seek (bitL xs) (by omega) a hc (X h [] h.clock) (wf.X (by simp)) (hs'.up wf _ _)
  rw [X_X,X_w,List.nil_append] at e
  rw [hxl] at hp hm
  have hf:=hch.facts
  obtain ⟨hok,hln⟩:=chain_ok hch
  have hL:L≤xs.length:=by have:=hf.le;omega
  obtain ⟨hpe,hpo⟩:=prof_ok hch hp hm
  obtain ⟨fv1,fv2⟩:=zPv (hat.sl (wf.X (by simp)) h.clock)
  have hat0:AttsAt h (M++[.cells (zBz [uu (T % 2 ^ 64),uu (T >>> 64),ii (L:Int)]) 59]) idx l v:=by
    obtain ⟨cap,hve,hM,hcap⟩:=hat.more [.cells (zBz [uu (T % 2 ^ 64),uu (T >>> 64),ii (L:Int)]) 59]
    exact ⟨cap,by rw [hve,nx_X];rw [List.length_nil,Nat.zero_add],hM,hcap⟩
  obtain ⟨v',M',hat',hlen',hkeep,happ⟩:=hat0.app wf ⟨T,L,(xs.length:Int)⟩ (by omega)
  generalize hlst:l++[(⟨T,L,(xs.length:Int)⟩:Att)]=lst at *
  obtain ⟨w',hw1,hw2,happ⟩:=happ h.clock
  have hwe:w'=h.clock:=by omega
  subst hwe
  obtain ⟨fw1,fw2⟩:=zPv (hat'.sl wf h.clock)
  unfold attC at happ
  simp only [List.append_assoc,List.cons_append,List.nil_append,List.length_append,List.length_cons,List.length_nil,Nat.zero_add] at happ
  have hrz : ∀ id off l c esz,reszT Try.prog 63 (.sl id off l (some c) esz) = .sl id off l (some c) 4:=fun _ _ _ _ _=>yUx un_63 zQx
  have hrz2 : ∀ id off l c esz,reszT Try.prog 22 (.sl id off l (some c) esz) = .sl id off l (some c) 1:=fun _ _ _ _ _=>yUx yTx sz_3
  have hlv : ∀ h',lenE Try.prog 63 v' h'=some (ii (lst.length:Int)):=fun h'=>(hat'.sl wf h.clock).len un_63
  unfold rg at e
  refine zMy (fn:=Try.f23) Try.func23 rfl rfl rfl rfl rfl ?_
  simp only [zKv]
  (repeat' (first
  | (with_reducible first|refine zJx ?_|refine zGw ?_|refine zFz ?_|refine zEv ?_|refine zFy ?_|refine zJw ?_|refine zGv ?_|refine zCz ?_|refine zDw ?_|refine zCy ?_|refine zCv ?_|refine zEx ?_|refine zDz ?_|refine zCx ?_|refine zBx ?_|refine zEz ?_|refine zEy ?_|refine zAw ?_|refine zBy ?_)
  | refine zDy ?_|refine zEw rfl ?_|refine zIv ?_|refine zJy ?_
  | ((first|refine zGx rfl rfl rfl rfl rfl fun K_ hK_=>?_|refine zGy rfl rfl rfl rfl rfl fun K_ hK_=>?_);simp only [zAz,zDx,zGz,↓reduceIte,reduceCtorEq,Nat.reduceEqDiff,Bool.not_true,Bool.not_false];refine hK_ _ ?_;clear hK_ K_)
  | refine zDv (by decide) ?_
  | ((try first|refine zKy rfl rfl rfl ?_|refine zIw rfl rfl ?_|refine zKx rfl rfl rfl ?_|refine zJz rfl rfl ?_);(refine zIx fun Q_ hQ_=>?_;simp (disch:=first|omega|(simp only [List.length_cons,List.length_nil,List.length_append];omega)) only [bb,bp,zKv,↓reduceIte,reduceCtorEq,Nat.reduceEqDiff,Nat.reduceLT,Nat.reduceLeDiff,Nat.reduceAdd,Nat.reduceMul,Nat.reduceSub,Nat.reduceBEq,Int.reduceToNat,cond_true,cond_false,eq_self,beq_self_eq_true,hl,hlv,f1,f2,fv1,fv2,fw1,fw2,happ,hrz,zRw,zFx wf,zHx wf,zBv wf,zFw wf,zAy wf,zAx,tEvZ20,zIy,zIz,zHv,zHw,zAv wf];first|(refine zCw (Q:=Q_) (fun hp_=>?_) (fun hp_=>?_) <;> first|(exfalso;omega)|(refine hQ_ _ _ ?_;clear hQ_ Q_))|(refine zBw (Q:=Q_) (fun hp_=>?_) (fun hp_=>?_) <;> first|(exfalso;omega)|(refine hQ_ _ _ ?_;clear hQ_ Q_))|(refine hQ_ _ _ ?_;clear hQ_ Q_)|(refine zOv (c1 _ _ (by first|omega|(simp only [List.length_append,List.length_cons,List.length_nil];omega))) ?_;refine hQ_ _ _ ?_;clear hQ_ Q_)|(refine zOv (e) ?_;refine hQ_ _ _ ?_;clear hQ_ Q_)))
  | (refine zHz fun K_ hK_=>?_;simp (disch:=omega) only [zFv,zAz,zHy,↓reduceIte,reduceCtorEq,Nat.reduceEqDiff,Nat.reduceLT];refine hK_ _ ?_;clear hK_ K_)))
  have hsl':=fun G w=>(hat'.more G).sl wf w
  have hin : ∀ (k:Nat),oneB (ni k)=true:=fun _=>rfl
  have hokl : ∀ x ∈ lst,OkA x:=by
    rw [← hlst]
    intro x hx
    rcases List.mem_append.1 hx with h|h
    · exact hok x h
    · rw [List.mem_singleton.1 h]
      exact ⟨⟨by show (-1:Int)≤(xs.length:Int);omega,by show (xs.length:Int)≤128;omega⟩,by show L≤128;omega⟩
  have hlstn:lst.length≤200:=by rw [← hlst,List.length_append];simp;have:=hf.p_le;omega
  have hPl : ∀ i,(profOf (lst.take i)).length≤129:=fun i=>by
    induction i with
    | zero=>rw [List.take_zero];exact Nat.zero_le _
    | succ i ih=>
      by_cases hi:i<lst.length
      · rw [List.take_succ_eq_append_getElem hi,xEv,List.length_append,List.length_replicate]
        have:=(hokl _ (List.getElem_mem hi)).1.2
        omega
      · rw [List.take_of_length_le (by omega)];rw [List.take_of_length_le (by omega)] at ih;exact ih
  refine zOw (α:=Nat) (fun (i:Nat) f d h'=>i≤lst.length∧f 26=v'∧f 27=ii (lst.length:Int)∧f 28=ii (i:Int)∧d=[] ∧
    ∃ pv G w,f 7=pv∧Grow h M' G pv 1 3 (profOf (lst.take i)).length ((profOf (lst.take i)).map ni)∧h.clock≤w∧h'=X h (M'++G) w) (fun i=>lst.length - i) ?_ (lst.length+1) 0 (by omega) ?_
  · rintro i f d h' ⟨hi,g26,g27,g28,rfl,pv,G,w,g7,hg,hw,rfl⟩
    obtain ⟨fp1,fp2⟩:=hg.flat
    by_cases hlt:i<lst.length
    · obtain ⟨hix,hld⟩:=hat'.get wf hlt
      have hPi:=hPl i
      have e1:profOf (lst.take (i+1))=profOf (lst.take i)++List.replicate ((lst[i].at_+1).toNat - (profOf (lst.take i)).length) lst[i].L:=by rw [List.take_succ_eq_append_getElem hlt,xEv]
      have hxok:=hokl _ (List.getElem_mem hlt)
      generalize hP:profOf (lst.take i)=P at *
      generalize hxe:lst[i]=x at *
      obtain ⟨⟨ho1,ho2⟩,ho3⟩:=hxok
      unfold attC at hld
      generalize hid:nx h (M.length+2)=idv at *
      generalize nx h ((M++[AO.cells (zBz [uu (T % 2 ^ 64),uu (T >>> 64),ii (L:Int)]) 59]).length+1)=ida at *
      (repeat' (first
  | (with_reducible first|refine zJx ?_|refine zGw ?_|refine zFz ?_|refine zEv ?_|refine zFy ?_|refine zJw ?_|refine zGv ?_|refine zCz ?_|refine zDw ?_|refine zCy ?_|refine zCv ?_|refine zEx ?_|refine zDz ?_|refine zCx ?_|refine zBx ?_|refine zEz ?_|refine zEy ?_|refine zAw ?_|refine zBy ?_)
  | refine zDy ?_|refine zEw rfl ?_|refine zIv ?_|refine zJy ?_
  | ((first|refine zGx rfl rfl rfl rfl rfl fun K_ hK_=>?_|refine zGy rfl rfl rfl rfl rfl fun K_ hK_=>?_);simp only [zAz,zDx,zGz,↓reduceIte,reduceCtorEq,Nat.reduceEqDiff,Bool.not_true,Bool.not_false];refine hK_ _ ?_;clear hK_ K_)
  | refine zDv (by decide) ?_
  | ((try first|refine zKy rfl rfl rfl ?_|refine zIw rfl rfl ?_|refine zKx rfl rfl rfl ?_|refine zJz rfl rfl ?_);(refine zIx fun Q_ hQ_=>?_;simp (disch:=first|omega|(simp only [List.length_cons,List.length_nil,List.length_append];omega)) only [bb,bp,zKv,↓reduceIte,reduceCtorEq,Nat.reduceEqDiff,Nat.reduceLT,Nat.reduceLeDiff,Nat.reduceAdd,Nat.reduceMul,Nat.reduceSub,Nat.reduceBEq,Int.reduceToNat,cond_true,cond_false,eq_self,beq_self_eq_true,hl,hlv,f1,f2,fw1,fw2,fp1,fp2,g7,g26,g27,g28,hix,hld,zFx wf,zHx wf,zBv wf,zFw wf,zAy wf,zAx,tEvZ20,zIy,zIz,zHv,zHw,zAv wf];first|(refine zCw (Q:=Q_) (fun hp_=>?_) (fun hp_=>?_) <;> first|(exfalso;omega)|(refine hQ_ _ _ ?_;clear hQ_ Q_))|(refine zBw (Q:=Q_) (fun hp_=>?_) (fun hp_=>?_) <;> first|(exfalso;omega)|(refine hQ_ _ _ ?_;clear hQ_ Q_))|(refine hQ_ _ _ ?_;clear hQ_ Q_)))
  | (refine zHz fun K_ hK_=>?_;simp (disch:=omega) only [zFv,zAz,zHy,↓reduceIte,reduceCtorEq,Nat.reduceEqDiff,Nat.reduceLT];refine hK_ _ ?_;clear hK_ K_)))
      have lx : ∀ {G':List AO},G'[G.length]? = some (.cells (zBz [uu (x.T % 2 ^ 64),uu (x.T >>> 64),ii (x.L:Int),ii x.at_]) 67) → ∀ J w,load1 (nx h (M'.length+G.length)) 3 (X h (M'++(G'++J)) w)=some (ii x.at_)∧load1 (nx h (M'.length+G.length)) 2 (X h (M'++(G'++J)) w)=some (ii (x.L:Int)):=fun {G'} hG J w=>by
        rw [zHx wf,zHx wf,xOz,List.getElem?_append_left (zLv hG),hG]
        exact ⟨rfl,rfl⟩
      refine zOw (α:=Nat) (fun (c:Nat) f d h'=>P.length+c≤max P.length (x.at_+1).toNat∧f 9 = .ptr (nx h (M'.length+G.length)) 0∧f 26=v'∧f 27=ii (lst.length:Int)∧f 28=ii (i:Int)∧d=[] ∧
        ∃ pv G' w,f 7=pv∧Grow h M' G' pv 1 3 (P.length+c) ((P++List.replicate c x.L).map ni)∧G'[G.length]? = some (.cells (zBz [uu (x.T % 2 ^ 64),uu (x.T >>> 64),ii (x.L:Int),ii x.at_]) 67)∧h.clock≤w∧h'=X h (M'++G') w) (fun c=>300 - c) ?_ 301 0 (by omega) ?_
      · rintro c f d h' ⟨hcn,g9,g26,g27,g28,rfl,pv,G',w,g7,hg,hG9,hw,rfl⟩
        obtain ⟨fp1,fp2⟩:=hg.flat
        have lx1:=fun J w=>(lx hG9 J w).1
        have lx2:=fun J w=>(lx hG9 J w).2
        have lx10:=fun w=>by have:=lx1 [] w;rwa [List.append_nil] at this
        have lx20:=fun w=>by have:=lx2 [] w;rwa [List.append_nil] at this
        have hlp : ∀ h',lenE Try.prog 22 pv h'=some (ii ((P.length+c:Nat):Int)):=fun h'=>(hg.sl wf h.clock).len yTx
        by_cases hcl:P.length+c<max P.length (x.at_+1).toNat
        · have hle:((P.length+c:Nat):Int)≤x.at_:=by omega
          obtain ⟨pv',G'',hg',hk',happ2⟩:=(hg.more [.cells (zBz [ni x.L]) 3]).appendK (P:=Try.prog) wf yTx sz_3 el_3 (x:=.sl (nx h (M'.length+G'.length)) 0 1 (some 1) 1) (n:=1) (new:=[ni x.L]) (by omega) (by omega) (by decide) rfl rfl (fun w=>src_new (e:=3) wf (by rw [← List.append_assoc,show M'.length+G'.length=(M'++G').length by simp];simp) rfl)
          obtain ⟨w',hw1,hw2,happ2⟩:=happ2 w hw
          have hG9':=hk' G.length _ 67 (by decide) (by rw [List.getElem?_append_left (zLv hG9)];exact hG9)
          have hr:reszT Try.prog 22 pv=pv:=hg.resz 22
          have e3:(P++List.replicate (c+1) x.L).map ni=(P++List.replicate c x.L).map ni++[ni x.L]:=by
            rw [List.replicate_succ',← List.append_assoc,List.map_append];rfl
          rw [← e3] at hg'
          obtain ⟨fq1,fq2⟩:=hg'.flat
          (repeat' (first
  | (with_reducible first|refine zJx ?_|refine zGw ?_|refine zFz ?_|refine zEv ?_|refine zFy ?_|refine zJw ?_|refine zGv ?_|refine zCz ?_|refine zDw ?_|refine zCy ?_|refine zCv ?_|refine zEx ?_|refine zDz ?_|refine zCx ?_|refine zBx ?_|refine zEz ?_|refine zEy ?_|refine zAw ?_|refine zBy ?_)
  | refine zDy ?_|refine zEw rfl ?_|refine zIv ?_|refine zJy ?_
  | ((first|refine zGx rfl rfl rfl rfl rfl fun K_ hK_=>?_|refine zGy rfl rfl rfl rfl rfl fun K_ hK_=>?_);simp only [zAz,zDx,zGz,↓reduceIte,reduceCtorEq,Nat.reduceEqDiff,Bool.not_true,Bool.not_false];refine hK_ _ ?_;clear hK_ K_)
  | refine zDv (by decide) ?_
  | ((try first|refine zKy rfl rfl rfl ?_|refine zIw rfl rfl ?_|refine zKx rfl rfl rfl ?_|refine zJz rfl rfl ?_);(refine zIx fun Q_ hQ_=>?_;simp (disch:=first|omega|(simp only [List.length_cons,List.length_nil,List.length_append];omega)) only [bb,bp,zKv,↓reduceIte,reduceCtorEq,Nat.reduceEqDiff,Nat.reduceLT,Nat.reduceLeDiff,Nat.reduceAdd,Nat.reduceMul,Nat.reduceSub,Nat.reduceBEq,Int.reduceToNat,cond_true,cond_false,eq_self,beq_self_eq_true,hl,hlv,hlp,f1,f2,fw1,fw2,fp1,fp2,fq1,fq2,g7,g9,g26,g27,g28,lx10,lx20,hr,hrz2,happ2,zRy,zFx wf,zHx wf,zBv wf,zFw wf,zAy wf,tEvZ20,zIy,zIz,zHv,zHw,zAv wf];first|(refine zCw (Q:=Q_) (fun hp_=>?_) (fun hp_=>?_) <;> first|(exfalso;omega)|(refine hQ_ _ _ ?_;clear hQ_ Q_))|(refine zBw (Q:=Q_) (fun hp_=>?_) (fun hp_=>?_) <;> first|(exfalso;omega)|(refine hQ_ _ _ ?_;clear hQ_ Q_))|(refine hQ_ _ _ ?_;clear hQ_ Q_)))
  | (refine zHz fun K_ hK_=>?_;simp (disch:=omega) only [zFv,zAz,zHy,↓reduceIte,reduceCtorEq,Nat.reduceEqDiff,Nat.reduceLT];refine hK_ _ ?_;clear hK_ K_)))
          exact zJv (c+1) (by omega) ⟨by omega,by simp only [zAz,↓reduceIte,reduceCtorEq,Nat.reduceEqDiff];exact g9,by simp only [zAz,↓reduceIte,reduceCtorEq,Nat.reduceEqDiff];exact g26,by simp only [zAz,↓reduceIte,reduceCtorEq,Nat.reduceEqDiff];exact g27,by simp only [zAz,↓reduceIte,reduceCtorEq,Nat.reduceEqDiff];exact g28,rfl,pv',G'',w',by simp only [zAz,↓reduceIte,reduceCtorEq,Nat.reduceEqDiff],hg',hG9',hw1,rfl⟩
        · have hle : ¬ ((P.length+c:Nat):Int)≤x.at_:=by omega
          have hce:c=(x.at_+1).toNat - P.length:=by omega
          (repeat' (first
  | (with_reducible first|refine zJx ?_|refine zGw ?_|refine zFz ?_|refine zEv ?_|refine zFy ?_|refine zJw ?_|refine zGv ?_|refine zCz ?_|refine zDw ?_|refine zCy ?_|refine zCv ?_|refine zEx ?_|refine zDz ?_|refine zCx ?_|refine zBx ?_|refine zEz ?_|refine zEy ?_|refine zAw ?_|refine zBy ?_)
  | refine zDy ?_|refine zEw rfl ?_|refine zIv ?_|refine zJy ?_
  | ((first|refine zGx rfl rfl rfl rfl rfl fun K_ hK_=>?_|refine zGy rfl rfl rfl rfl rfl fun K_ hK_=>?_);simp only [zAz,zDx,zGz,↓reduceIte,reduceCtorEq,Nat.reduceEqDiff,Bool.not_true,Bool.not_false];refine hK_ _ ?_;clear hK_ K_)
  | refine zDv (by decide) ?_
  | ((try first|refine zKy rfl rfl rfl ?_|refine zIw rfl rfl ?_|refine zKx rfl rfl rfl ?_|refine zJz rfl rfl ?_);(refine zIx fun Q_ hQ_=>?_;simp (disch:=first|omega|(simp only [List.length_cons,List.length_nil,List.length_append];omega)) only [bb,bp,zKv,↓reduceIte,reduceCtorEq,Nat.reduceEqDiff,Nat.reduceLT,Nat.reduceLeDiff,Nat.reduceAdd,Nat.reduceMul,Nat.reduceSub,Nat.reduceBEq,Int.reduceToNat,cond_true,cond_false,eq_self,beq_self_eq_true,hl,hlv,hlp,f1,f2,fw1,fw2,fp1,fp2,g7,g9,g26,g27,g28,lx10,lx20,zFx wf,zHx wf,zBv wf,zFw wf,zAy wf,tEvZ20,zIy,zIz,zHv,zHw,zAv wf];first|(refine zCw (Q:=Q_) (fun hp_=>?_) (fun hp_=>?_) <;> first|(exfalso;omega)|(refine hQ_ _ _ ?_;clear hQ_ Q_))|(refine zBw (Q:=Q_) (fun hp_=>?_) (fun hp_=>?_) <;> first|(exfalso;omega)|(refine hQ_ _ _ ?_;clear hQ_ Q_))|(refine hQ_ _ _ ?_;clear hQ_ Q_)))
  | (refine zHz fun K_ hK_=>?_;simp (disch:=omega) only [zFv,zAz,zHy,↓reduceIte,reduceCtorEq,Nat.reduceEqDiff,Nat.reduceLT];refine hK_ _ ?_;clear hK_ K_)))
          refine zJv (i+1) (by omega) ⟨hlt,by simp only [zAz,↓reduceIte,reduceCtorEq,Nat.reduceEqDiff];exact g26,by simp only [zAz,↓reduceIte,reduceCtorEq,Nat.reduceEqDiff];exact g27,by simp only [zAz,↓reduceIte,reduceCtorEq,Nat.reduceEqDiff];rfl,rfl,pv,G',w,by simp only [zAz,↓reduceIte,reduceCtorEq,Nat.reduceEqDiff];exact g7,?_,hw,rfl⟩
          rw [e1,← hce,List.length_append,List.length_replicate]
          exact hg
      · exact ⟨by omega,by simp only [zAz,↓reduceIte,reduceCtorEq,Nat.reduceEqDiff],by simp only [zAz,↓reduceIte,reduceCtorEq,Nat.reduceEqDiff];exact g26,by simp only [zAz,↓reduceIte,reduceCtorEq,Nat.reduceEqDiff];exact g27,by simp only [zAz,↓reduceIte,reduceCtorEq,Nat.reduceEqDiff];exact g28,rfl,pv,_,_,by simp only [zAz,↓reduceIte,reduceCtorEq,Nat.reduceEqDiff];exact g7,by rw [List.replicate_zero,List.append_nil,Nat.add_zero];exact hg.more _,by rw [List.getElem?_append_right (Nat.le_refl _),Nat.sub_self];rfl,by omega,rfl⟩
    · have hie:i=lst.length:=by omega
      subst hie
      rw [List.take_length] at hg
      rw [hpe] at hg
      (repeat' (first
  | (with_reducible first|refine zJx ?_|refine zGw ?_|refine zFz ?_|refine zEv ?_|refine zFy ?_|refine zJw ?_|refine zGv ?_|refine zCz ?_|refine zDw ?_|refine zCy ?_|refine zCv ?_|refine zEx ?_|refine zDz ?_|refine zCx ?_|refine zBx ?_|refine zEz ?_|refine zEy ?_|refine zAw ?_|refine zBy ?_)
  | refine zDy ?_|refine zEw rfl ?_|refine zIv ?_|refine zJy ?_
  | ((first|refine zGx rfl rfl rfl rfl rfl fun K_ hK_=>?_|refine zGy rfl rfl rfl rfl rfl fun K_ hK_=>?_);simp only [zAz,zDx,zGz,↓reduceIte,reduceCtorEq,Nat.reduceEqDiff,Bool.not_true,Bool.not_false];refine hK_ _ ?_;clear hK_ K_)
  | refine zDv (by decide) ?_
  | ((try first|refine zKy rfl rfl rfl ?_|refine zIw rfl rfl ?_|refine zKx rfl rfl rfl ?_|refine zJz rfl rfl ?_);(refine zIx fun Q_ hQ_=>?_;simp (disch:=first|omega|(simp only [List.length_cons,List.length_nil,List.length_append];omega)) only [bb,bp,zKv,↓reduceIte,reduceCtorEq,Nat.reduceEqDiff,Nat.reduceLT,Nat.reduceLeDiff,Nat.reduceAdd,Nat.reduceMul,Nat.reduceSub,Nat.reduceBEq,Int.reduceToNat,cond_true,cond_false,eq_self,beq_self_eq_true,hl,hlv,f1,f2,fw1,fw2,fp1,fp2,g7,g26,g27,g28,zFx wf,zHx wf,zBv wf,zFw wf,zAy wf,zAx,tEvZ20,zIy,zIz,zHv,zHw,zAv wf];first|(refine zCw (Q:=Q_) (fun hp_=>?_) (fun hp_=>?_) <;> first|(exfalso;omega)|(refine hQ_ _ _ ?_;clear hQ_ Q_))|(refine zBw (Q:=Q_) (fun hp_=>?_) (fun hp_=>?_) <;> first|(exfalso;omega)|(refine hQ_ _ _ ?_;clear hQ_ Q_))|(refine hQ_ _ _ ?_;clear hQ_ Q_)))
  | (refine zHz fun K_ hK_=>?_;simp (disch:=omega) only [zFv,zAz,zHy,↓reduceIte,reduceCtorEq,Nat.reduceEqDiff,Nat.reduceLT];refine hK_ _ ?_;clear hK_ K_)))
      refine zKw _ _ rfl (ret2 (by decide) (by decide)) ?_
      simp only [zAz,↓reduceIte,reduceCtorEq,Nat.reduceEqDiff]
      have hpos:0<(prof++List.replicate (xs.length+1 - p) L).length:=by rw [hpo.len];omega
      generalize prof++List.replicate (xs.length+1 - p) L=F at *
      obtain ⟨hgl,h1|⟨gi,hpv,hgg⟩⟩:=hg
      · omega
      · subst hpv
        refine WV_keep wf hw (fun hfl=>absurd (show false=true from hfl) (by decide)) (fun _=>?_)
        refine ⟨F,_,M'++G,hpo,capu_none,fun J w=>?_,rfl,rfl⟩
        exact Sl.new (k:=M'.length+gi) wf (by rw [List.length_map,Nat.mul_one]) (by rw [List.append_assoc,xOz,List.getElem?_append_left (zLv hgg)];exact hgg)
  · exact ⟨Nat.zero_le _,by simp only [zAz,↓reduceIte,reduceCtorEq,Nat.reduceEqDiff],by simp only [zAz,↓reduceIte,reduceCtorEq,Nat.reduceEqDiff],by simp only [zAz,↓reduceIte,reduceCtorEq,Nat.reduceEqDiff];try rfl,rfl,.nils,[],_,by simp only [zAz,↓reduceIte,reduceCtorEq,Nat.reduceEqDiff],by rw [List.take_zero];exact Grow.nil _ _ _ _ _,Nat.le_refl _,by rw [List.append_nil]⟩
end Go.Proofs.Ytmincoafjnnkpaa
end

section
namespace Go.Proofs.Ytmincoafjnnkpaa
open Go.Ev
set_option maxRecDepth 100000
set_option linter.unusedSimpArgs false
set_option linter.unusedVariables false
set_option maxHeartbeats 2000000
end Go.Proofs.Ytmincoafjnnkpaa
end

section
namespace Go.Proofs.Ytmincoafjnnkpaa
open Go.Ev
set_option maxRecDepth 100000
set_option linter.unusedSimpArgs false
set_option linter.unusedVariables false
set_option maxHeartbeats 2000000
end Go.Proofs.Ytmincoafjnnkpaa
end

section
namespace Go.Ev
section
variable {P:Program}
structure KeyT (P:Program) (t a e:TypeId):Prop where
  str : ∃ f:Field,P.underlying t=some (.struct #[f])∧f.type=a∧f.offset=0∧f.name ≠ "_"
  arr:P.underlying a=some (.array 2 e)
  int : ∃ k,P.underlying e=some (.int k)
  sze:pureRun P (sizeOf e)=some 1
  sza:pureRun P (sizeOf a)=some 2
  std:P.stoodInHeld t=false
def kvN (n:Nat):Value:=.agg #[.int .u64 ((n % 2 ^ 64:Nat):Int),.int .u64 ((n >>> 64:Nat):Int)]
theorem conc_wd (n:Nat):conc0 (.agg (wd n))=some (kvN n):=rfl
theorem wd_apart {n m:Nat} : (((n % 2 ^ 64:Nat):Int)=((m % 2 ^ 64:Nat):Int)∧((n >>> 64:Nat):Int)=((m >>> 64:Nat):Int)) ↔ n=m:=by
  rw [Nat.shiftRight_eq_div_pow,Nat.shiftRight_eq_div_pow]
  constructor
  · rintro ⟨h1,h2⟩
    have a1:=Nat.div_add_mod n (2 ^ 64)
    have a2:=Nat.div_add_mod m (2 ^ 64)
    have b1:n % 2 ^ 64=m % 2 ^ 64:=by exact_mod_cast h1
    have b2:n / 2 ^ 64=m / 2 ^ 64:=by exact_mod_cast h2
    rw [← a1,← a2,b1,b2]
  · rintro rfl;exact ⟨rfl,rfl⟩
theorem yZx {e x:TypeId} {k n:Nat} {cs:Array Value} {off:Nat} (hu:P.underlying e=some (.array k x)) (hz:pureRun P (sizeOf e)=some n):pureRun P (part e cs off)=some (.agg (cs.extract off (off+n))):=by
  unfold part
  have h1:pureRun P (isAgg e)=some true:=by
    unfold isAgg
    rw [zLx,zMx hu]
    rfl
  rw [zLx,h1]
  simp only [Option.bind_some,if_true]
  rw [zLx,hz]
  rfl
theorem KeyT.eq {t a e:TypeId} (K:KeyT P t a e) (n m:Nat):pureRun P (Op.equal t (kvN n) (kvN m))=some (decide (n=m)):=by
  obtain ⟨f,hu,hf,ho,hn⟩:=K.str
  obtain ⟨k,he⟩:=K.int
  have p1:pureRun P (part f.type #[.int .u64 ((n % 2 ^ 64:Nat):Int),.int .u64 ((n >>> 64:Nat):Int)] f.offset)=some (.agg #[.int .u64 ((n % 2 ^ 64:Nat):Int),.int .u64 ((n >>> 64:Nat):Int)]):=by rw [hf,ho,yZx K.arr K.sza];rfl
  have p2:pureRun P (part f.type #[.int .u64 ((m % 2 ^ 64:Nat):Int),.int .u64 ((m >>> 64:Nat):Int)] f.offset)=some (.agg #[.int .u64 ((m % 2 ^ 64:Nat):Int),.int .u64 ((m >>> 64:Nat):Int)]):=by rw [hf,ho,yZx K.arr K.sza];rfl
  have q:=xLx (d:=9997) (a:=((n % 2 ^ 64:Nat):Int)) (b:=((n >>> 64:Nat):Int)) (a':=((m % 2 ^ 64:Nat):Int)) (b':=((m >>> 64:Nat):Int)) K.arr he K.sze
  show pureRun P (Op.equalIn (9999+1) t (kvN n) (kvN m))=_
  unfold kvN
  rw [Op.equalIn,zLx,zMx hu]
  simp only [Option.bind_some]
  rw [zLx,xGw]
  simp only [Option.bind_some,K.std]
  have q':pureRun P (Op.equalIn 9999 f.type (.agg #[.int .u64 ((n % 2 ^ 64:Nat):Int),.int .u64 ((n >>> 64:Nat):Int)]) (.agg #[.int .u64 ((m % 2 ^ 64:Nat):Int),.int .u64 ((m >>> 64:Nat):Int)]))=some (decide (n=m)):=by
    rw [hf]
    show pureRun P (Op.equalIn (9997+2) a _ _)=_
    rw [q]
    congr 1
    have:(((n % 2 ^ 64:Nat):Int) == ((m % 2 ^ 64:Nat):Int) && ((n >>> 64:Nat):Int) == ((m >>> 64:Nat):Int))=decide (n=m):=by
      rw [Bool.eq_iff_iff,Bool.and_eq_true,beq_iff_eq,beq_iff_eq,decide_eq_true_eq]
      exact wd_apart
    exact this
  generalize #[Value.int .u64 ((n % 2 ^ 64:Nat):Int),.int .u64 ((n >>> 64:Nat):Int)]=xs at *
  generalize #[Value.int .u64 ((m % 2 ^ 64:Nat):Int),.int .u64 ((m >>> 64:Nat):Int)]=ys at *
  by_cases h:n=m
  · simp [zLx,hn,p1,p2,q',h,yRy]
  · simp [zLx,hn,p1,p2,q',h,yRy]
theorem KeyT.check {t a e:TypeId} (K:KeyT P t a e) (b:Bool) (n:Nat):pureRun P (Instr.checkKey b 10000 t (kvN n))=some ():=by
  obtain ⟨f,hu,hf,ho,hn⟩:=K.str
  obtain ⟨k,he⟩:=K.int
  have p1:pureRun P (part f.type #[.int .u64 ((n % 2 ^ 64:Nat):Int),.int .u64 ((n >>> 64:Nat):Int)] f.offset)=some (.agg #[.int .u64 ((n % 2 ^ 64:Nat):Int),.int .u64 ((n >>> 64:Nat):Int)]):=by rw [hf,ho,yZx K.arr K.sza];rfl
  have e1 : ∀ x:Int,pureRun P (Instr.checkKey b 9998 e (.int .u64 x))=some ():=fun x=>by
    show pureRun P (Instr.checkKey b (9997+1) e (.int .u64 x))=_
    rw [Instr.checkKey,zLx,zMx he]
    rfl
  have e2 : ∀ x y:Int,pureRun P (Instr.checkKey b 9999 a (.agg #[.int .u64 x,.int .u64 y]))=some ():=fun x y=>by
    show pureRun P (Instr.checkKey b (9998+1) a _)=_
    have r0:pureRun P (part e #[.int .u64 x,.int .u64 y] 0)=some (.int .u64 x):=xBz he rfl
    have r1:pureRun P (part e #[.int .u64 x,.int .u64 y] 1)=some (.int .u64 y):=xBz he rfl
    rw [Instr.checkKey,zLx,zMx K.arr]
    simp only [Option.bind_some]
    simp [Std.Legacy.Range.forIn_eq_forIn_range',List.range',zLx,r0,r1,e1,K.sze,Std.Legacy.Range.size,yRy]
  show pureRun P (Instr.checkKey b (9999+1) t (kvN n))=_
  unfold kvN
  rw [Instr.checkKey,zLx,zMx hu]
  simp only [Option.bind_some]
  have e2:=e2 ((n % 2 ^ 64:Nat):Int) ((n >>> 64:Nat):Int)
  rw [← hf] at e2
  generalize #[Value.int .u64 ((n % 2 ^ 64:Nat):Int),.int .u64 ((n >>> 64:Nat):Int)]=xs at *
  simp [zLx,hn,p1,e2,yRy]
def esN (l:List (Nat × Nat)):List (Value × AV × Nat):=l.map fun p=>(kvN p.1,.bool true,p.2)
def idxN :List (Nat × Nat)→Nat→Nat→Option Nat
  | [],_,_=>none
  | p :: l,n,i=>if n=p.1 then some i else idxN l n (i+1)
theorem KeyT.asking {t a e:TypeId} (K:KeyT P t a e) (n:Nat) : ∀ (l:List (Nat × Nat)) (i:Nat),pureRun P (Instr.findAsking t (kvN n) (asEntries (esN l)) i)=some ((idxN l n i).map fun j=>(j,.tuple #[]))
  | [],_=>rfl
  | p :: l,i=>by
    show pureRun P (Instr.findAsking t (kvN n) ({ key:=kvN p.1,val:=.tuple #[],born:=p.2 } :: asEntries (esN l)) i)=_
    rw [Instr.findAsking,zLx,K.eq]
    simp only [Option.bind_some]
    unfold idxN
    by_cases h:n=p.1
    · rw [if_pos (by simpa using h),if_pos h];rfl
    · rw [if_neg (by simpa using h),if_neg h]
      exact KeyT.asking K n l (i+1)
theorem KeyT.find {t a e:TypeId} (K:KeyT P t a e) (n:Nat) (b:Bool) (l:List (Nat × Nat)):findE P b t (kvN n) (esN l)=some (idxN l n 0):=by
  obtain ⟨f,hu,hf,ho,hn⟩:=K.str
  unfold findE
  rw [K.check]
  dsimp only
  have:pureRun P (Instr.findKey t (kvN n) (asEntries (esN l)))=some ((idxN l n 0).map fun j=>(j,.tuple #[])):=by
    unfold Instr.findKey
    rw [zLx,zMx hu]
    simp only [Option.bind_some]
    cases l with
    | nil=>rfl
    | cons p l=>
      show pureRun P (match Instr.findNow (.struct #[f]) (kvN n) ({ key:=kvN p.1,val:=.tuple #[],born:=p.2 } :: asEntries (esN l)) 0 with|some r=>Pure.pure r|none=>_)=_
      have:Instr.findNow (.struct #[f]) (kvN n) ({ key:=kvN p.1,val:=.tuple #[],born:=p.2 } :: asEntries (esN l)) 0=none:=rfl
      rw [this]
      exact K.asking n (p :: l) 0
  rw [this]
  cases idxN l n 0 <;> rfl
theorem xQy {n:Nat} : ∀ {l:List (Nat × Nat)} {i j:Nat},idxN l n i=some j→i≤j ∧ ∃ b,l[j - i]? = some (n,b)
  | [],_,_,h=>by cases h
  | p :: l,i,j,h=>by
    unfold idxN at h
    split at h
    · rename_i e
      injection h with h
      subst h
      refine ⟨Nat.le_refl _,p.2,?_⟩
      rw [Nat.sub_self,e];rfl
    · obtain ⟨h1,b,h2⟩:=xQy h
      refine ⟨by omega,b,?_⟩
      rw [show j - i=(j - (i+1))+1 by omega]
      exact h2
theorem xQx {n:Nat} : ∀ {l:List (Nat × Nat)} {i:Nat},idxN l n i=none ↔ n ∉ l.map (·.1)
  | [],_=>by simp [idxN]
  | p :: l,i=>by
    unfold idxN
    rw [List.map_cons,List.mem_cons,not_or]
    by_cases h:n=p.1
    · rw [if_pos h];exact ⟨fun x=>(Option.some_ne_none _ x).elim,fun x=>absurd h x.1⟩
    · rw [if_neg h,xQx];exact ⟨fun x=>⟨h,x⟩,fun x=>x.2⟩
theorem lookIn {t a e et:TypeId} (K:KeyT P t a e) (hz:zeroE P et=some (.bool false)) (n:Nat) (l:List (Nat × Nat)):lookupIn P t et (kvN n) false (esN l)=some (.bool (decide (n ∈ l.map (·.1)))):=by
  unfold lookupIn
  rw [K.find]
  cases h:idxN l n 0 with
  | none=>
    rw [decide_eq_false (xQx.1 h)]
    dsimp only
    rw [hz];rfl
  | some j=>
    obtain ⟨_,b,hb⟩:=xQy h
    rw [Nat.sub_zero] at hb
    have hm:n ∈ l.map (·.1):=List.mem_map.2 ⟨(n,b),List.mem_of_getElem? hb,rfl⟩
    rw [decide_eq_true hm]
    dsimp only
    have:(esN l)[j]? = some (kvN n,.bool true,b):=by unfold esN;rw [List.getElem?_map,hb];rfl
    rw [this];rfl
theorem eraseAt_esN : ∀ (l:List (Nat × Nat)) (i:Nat),eraseAt (esN l) i=esN (l.eraseIdx i)
  | [],_=>rfl
  | _ :: _,0=>rfl
  | p :: l,i+1=>by
    show (kvN p.1,AV.bool true,p.2) :: eraseAt (esN l) i=(kvN p.1,AV.bool true,p.2) :: esN (l.eraseIdx i)
    rw [eraseAt_esN l i]
theorem delIn {t a e:TypeId} (K:KeyT P t a e) (n c:Nat) (l:List (Nat × Nat)) : ∃ l',deleteIn P t (kvN n) (esN l) c=some (.map (esN l') c)∧l'.map (·.1)=(l.map (·.1)).erase n:=by
  unfold deleteIn
  rw [K.find]
  cases h:idxN l n 0 with
  | none=>exact ⟨l,rfl,(List.erase_of_not_mem (xQx.1 h)).symm⟩
  | some j=>
    refine ⟨l.eraseIdx j,by dsimp only;rw [eraseAt_esN],?_⟩
    clear K
    have key : ∀ (l:List (Nat × Nat)) (i j:Nat),idxN l n i=some j→(l.eraseIdx (j - i)).map (·.1)=(l.map (·.1)).erase n:=by
      intro l
      induction l with
      | nil=>intro i j h;cases h
      | cons p l ih=>
        intro i j h
        obtain ⟨h1,_⟩:=xQy h
        unfold idxN at h
        split at h
        · rename_i e
          injection h with h
          subst h
          rw [Nat.sub_self,List.map_cons,e,List.erase_cons_head];rfl
        · rename_i e
          obtain ⟨h2,_⟩:=xQy h
          rw [show j - i=(j - (i+1))+1 by omega,List.map_cons,List.erase_cons_tail (by simpa using fun x=>e x.symm)]
          show p.1 :: (l.eraseIdx (j - (i+1))).map (·.1)=_
          rw [ih _ _ h]
    exact key l 0 j h
theorem updIn {t a e:TypeId} (K:KeyT P t a e) (n c:Nat) (l:List (Nat × Nat)) (hn:n ∉ l.map (·.1)):updateIn P t (kvN n) (.bool true) (esN l) c=some (.map (esN (l++[(n,c)])) (c+1)):=by
  unfold updateIn
  rw [K.find,xQx.2 hn]
  dsimp only
  unfold esN
  rw [List.map_append];rfl
end
def MapN (ks:List Nat) (o:AO):Prop:=∃ l c,o = .map (esN l) c∧l.map (·.1)=ks
section
variable {P:Program} {h:H} {L:List AO} {k w:Nat} {ks:List Nat} {o:AO} {mt t a e et:TypeId}
theorem MapN.look (wf:Wf h) (x:MapN ks o) (hL:L[k]? = some o) (hm:P.underlying mt=some (.map t et)) (K:KeyT P t a e) (hz:zeroE P et=some (.bool false)) (n:Nat):lookupE P mt (.map (nx h k)) (.agg (wd n)) false (X h L w)=some (.bool (decide (n ∈ ks))):=by
  obtain ⟨l,c,rfl,rfl⟩:=x
  unfold lookupE
  rw [hm,conc_wd]
  dsimp only
  rw [zPx wf,hL]
  exact lookIn K hz n l
theorem MapN.set (wf:Wf h) (x:MapN ks o) (hL:L[k]? = some o) (hm:P.underlying mt=some (.map t et)) (K:KeyT P t a e) {n:Nat} (hn:n ∉ ks) : ∃ o',MapN (ks++[n]) o' ∧ ∀ w,updateE P mt (.map (nx h k)) (.agg (wd n)) (.bool true) (X h L w)=some (X h (L.set k o') (min (h.clock+k) w)):=by
  obtain ⟨l,c,rfl,rfl⟩:=x
  refine ⟨_,⟨l++[(n,c)],c+1,rfl,by rw [List.map_append];rfl⟩,fun w=>?_⟩
  unfold updateE
  rw [hm,conc_wd]
  dsimp only
  rw [zPx wf,hL]
  dsimp only
  rw [updIn K n c l hn]
  exact yRz L w k _ (zLv hL)
theorem MapN.del (wf:Wf h) (x:MapN ks o) (hL:L[k]? = some o) (hm:P.underlying mt=some (.map t et)) (K:KeyT P t a e) (n:Nat) : ∃ o',MapN (ks.erase n) o' ∧ ∀ w,deleteE P mt (.map (nx h k)) (.agg (wd n)) (X h L w) = .ok (.tup []) (X h (L.set k o') (min (h.clock+k) w)):=by
  obtain ⟨l,c,rfl,rfl⟩:=x
  obtain ⟨l',e1,e2⟩:=delIn K n c l
  refine ⟨_,⟨l',c,rfl,e2⟩,fun w=>?_⟩
  unfold deleteE
  rw [hm,conc_wd]
  dsimp only
  rw [zPx wf,hL]
  dsimp only
  rw [e1]
  dsimp only
  rw [yRz L w k _ (zLv hL)]
  rfl
theorem newMap_X (wf:Wf h):newMap (X h L w) = .ok (.map (nx h L.length)) (X h (L++[.map [] 0]) w):=by
  unfold newMap
  rw [xJy wf]
theorem MapN.nil :MapN [] (.map [] 0):=⟨[],0,rfl,rfl⟩
end
end Go.Ev
end

section
namespace Go.Ev
structure FirstRep (o:Nat→Nat) (p:Nat):Prop where
  apart : ∀ i j,i<j→j<p→o i≠o j
  back : ∃ i,i<p∧o p=o i
theorem FirstRep.unique {o:Nat→Nat} {p q:Nat} (a:FirstRep o p) (b:FirstRep o q):p=q:=by
  obtain ⟨i,hi,ei⟩:=a.back
  obtain ⟨j,hj,ej⟩:=b.back
  refine Classical.byContradiction fun h=>?_
  rcases Nat.lt_or_gt_of_ne h with h|h
  · exact b.apart i p hi h ei.symm
  · exact a.apart j q hj h ej.symm
def Back (T L:Nat):Prop:=L=0∨T.testBit (L - 1)=true
theorem px_last {f g:Nat→Bool} {n:Nat} (h : ∀ i,i<n→f i=g i) (e:px (n+1) f=px (n+1) g):f n=g n:=by
  have e1:px (n+1) f=(px n f ^^ f n):=rfl
  have e2:px (n+1) g=(px n g ^^ g n):=rfl
  rw [e1,e2,zYv h] at e
  revert e
  cases px n g <;> cases f n <;> cases g n <;> simp
theorem next_back {T L:Nat} (hL:L≤128) (hb:Back T L) {s:Nat→Bool} (hs : ∀ i,L≤i→s i=pred T L s i) {i j:Nat} (hi:L≤i) (hj:L≤j) (e:st L s (i+1)=st L s (j+1)):st L s i=st L s j:=by
  rcases hb with rfl|hb
  · have a:=st_lt 0 s i
    have b:=st_lt 0 s j
    omega
  · by_cases h0:L=0
    · subst h0
      have a:=st_lt 0 s i
      have b:=st_lt 0 s j
      omega

    have hbit : ∀ k,k<L→s (i - k)=s (j - k):=fun k hk=>by
      have h1:=congrArg (fun x=>Nat.testBit x k) e
      simp only [xGz hL] at h1
      have d1:decide (k<L)=true:=decide_eq_true hk
      have d2:decide (k<i+1)=true:=decide_eq_true (by omega)
      have d3:decide (k<j+1)=true:=decide_eq_true (by omega)
      rw [d1,d2,d3,Bool.true_and,Bool.true_and,Bool.true_and,show i+1 - 1 - k=i - k by omega,show j+1 - 1 - k=j - k by omega] at h1
      exact h1
    have hp:pred T L s i=pred T L s j:=by
      rw [← hs i hi,← hs j hj]
      exact hbit 0 (by omega)
    have hall : ∀ k,k<L→s (i - 1 - k)=s (j - 1 - k):=fun k hk=>by
      by_cases hk1:k+1<L
      · have:=hbit (k+1) hk1
        rwa [show i - (k+1)=i - 1 - k by omega,show j - (k+1)=j - 1 - k by omega] at this
      · have hkL:k=L - 1:=by omega
        subst hkL
        unfold pred at hp
        rw [show L=(L - 1)+1 by omega] at hp
        have:=px_last (n:=L - 1) (f:=fun k=>T.testBit k && s (i - 1 - k)) (g:=fun k=>T.testBit k && s (j - 1 - k)) (fun k hk=>by
          have:=hbit (k+1) (by omega)
          rw [show i - (k+1)=i - 1 - k by omega,show j - (k+1)=j - 1 - k by omega] at this
          rw [this]) hp
        simpa [hb] using this
    apply Nat.eq_of_testBit_eq
    intro k
    rw [xGz hL,xGz hL]
    by_cases hk:k<L
    · rw [hall k hk,decide_eq_true hk,decide_eq_true (show k<i by omega),decide_eq_true (show k<j by omega)]
    · rw [decide_eq_false hk];rfl
theorem next_same {T L:Nat} (hL:L≤128) {s:Nat→Bool} (hs : ∀ i,L≤i→s i=pred T L s i) {i j:Nat} (hi:L≤i) (hj:L≤j) (e:st L s i=st L s j):st L s (i+1)=st L s (j+1)∧s i=s j:=by
  have h1:s i=s j:=by rw [hs i hi,hs j hj,← next_st hL s hi,← next_st hL s hj,e]
  exact ⟨by show aft L (st L s i) (s i)=aft L (st L s j) (s j);rw [e,h1],h1⟩
theorem rep_start {T L:Nat} (hL:L≤128) (hb:Back T L) {s:Nat→Bool} (hs : ∀ i,L≤i→s i=pred T L s i) {p:Nat} (r:FirstRep (fun i=>st L s (L+i)) p):0<p∧st L s (L+p)=st L s L:=by
  obtain ⟨i,hi,e⟩:=r.back
  refine ⟨by omega,?_⟩
  cases i with
  | zero=>exact e
  | succ i=>
    have e2:st L s (L+(p - 1)+1)=st L s (L+i+1):=by
      rw [show L+(p - 1)+1=L+p by omega];exact e
    have:=next_back hL hb hs (by omega) (by omega) e2
    exact absurd this.symm (r.apart i (p - 1) (by omega) (by omega))
theorem rep_all {T L:Nat} (hL:L≤128) {s:Nat→Bool} (hs : ∀ i,L≤i→s i=pred T L s i) {p:Nat} (e:st L s (L+p)=st L s L) : ∀ n,st L s (L+p+n)=st L s (L+n)∧s (L+p+n)=s (L+n)
  | 0=>⟨e,(next_same hL hs (by omega) (by omega) e).2⟩
  | n+1=>by
    have h1:=(next_same hL hs (by omega) (by omega) (rep_all hL hs e n).1).1
    have h2:st L s (L+p+(n+1))=st L s (L+(n+1)):=h1
    exact ⟨h2,(next_same hL hs (by omega) (by omega) h2).2⟩
theorem rep_bits {T L:Nat} (hL:L≤128) {s:Nat→Bool} (hs : ∀ i,L≤i→s i=pred T L s i) {p:Nat} (e:st L s (L+p)=st L s L) (i:Nat):s (i+p)=s i:=by
  by_cases hi:i<L
  · have h1:=congrArg (fun x=>Nat.testBit x (L - 1 - i)) e
    simp only [xGz hL] at h1
    rw [decide_eq_true (show L - 1 - i<L by omega),decide_eq_true (show L - 1 - i<L+p by omega),Bool.true_and,Bool.true_and,Bool.true_and,show L+p - 1 - (L - 1 - i)=i+p by omega,show L - 1 - (L - 1 - i)=i by omega] at h1
    exact h1
  · have:=(rep_all hL hs e (i - L)).2
    rwa [show L+p+(i - L)=i+p by omega,show L+(i - L)=i by omega] at this
theorem rep_from {T L:Nat} (hL:L≤128) (hb:Back T L) {s:Nat→Bool} (hs : ∀ i,L≤i→s i=pred T L s i) {p:Nat} (r:FirstRep (fun i=>st L s (L+i)) p) (k:Nat):FirstRep (fun i=>st L s (L+(k+i))) p:=by
  obtain ⟨hp,e⟩:=rep_start hL hb hs r
  have back : ∀ k i j,st L s (L+(k+i))=st L s (L+(k+j))→st L s (L+i)=st L s (L+j):=by
    intro k
    induction k with
    | zero=>intro i j h;rwa [Nat.zero_add,Nat.zero_add] at h
    | succ k ih=>
      intro i j h
      refine ih i j (next_back hL hb hs (by omega) (by omega) ?_)
      rw [show L+(k+i)+1=L+(k+1+i) by omega,show L+(k+j)+1=L+(k+1+j) by omega]
      exact h
  refine ⟨fun i j hij hj h=>r.apart i j hij hj (back k i j h),0,hp,?_⟩
  have:=(rep_all hL hs e k).1
  show st L s (L+(k+p))=st L s (L+(k+0))
  rwa [show L+(k+p)=L+p+k by omega]
theorem rep_not {T L:Nat} (hL:L≤128) {s:Nat→Bool} {p:Nat} (r:FirstRep (fun i=>st L s (L+i)) p) {q:Nat} (h1:0<q) (h2:q<p) : ∃ i,i<L∧s (q+i)≠s i:=by
  refine Classical.byContradiction fun hno=>r.apart 0 q h1 h2 ?_
  have hall : ∀ i,i<L→s (q+i)=s i:=fun i hi=>Classical.byContradiction fun h=>hno ⟨i,hi,h⟩
  show st L s (L+0)=st L s (L+q)
  apply Nat.eq_of_testBit_eq
  intro k
  rw [xGz hL,xGz hL]
  by_cases hk:k<L
  · have:=hall (L - 1 - k) (by omega)
    rw [decide_eq_true hk,decide_eq_true (show k<L+0 by omega),decide_eq_true (show k<L+q by omega),show L+q - 1 - k=q+(L - 1 - k) by omega,this,show L+0 - 1 - k=L - 1 - k by omega]
  · rw [decide_eq_false hk];rfl
theorem rep_zero {T L:Nat} (hL:L≤128) (hb:Back T L) {s:Nat→Bool} (hs : ∀ i,L≤i→s i=pred T L s i) {p:Nat} (r:FirstRep (fun i=>st L s (L+i)) p) (hp:1<p) : ∀ j,j<p→st L s (L+j)≠0:=by
  intro j hj h0
  obtain ⟨_,e⟩:=rep_start hL hb hs r
  have hz:st L s (L+j+1)=0:=by
    have hn:s (L+j)=false:=by
      rw [hs (L+j) (by omega),← next_st hL s (by omega),h0]
      unfold nextB
      exact xIv fun i _=>by rw [Nat.and_zero,Nat.zero_testBit]
    show aft L (st L s (L+j)) (s (L+j))=0
    rw [h0,hn]
    apply Nat.eq_of_testBit_eq
    intro k
    rw [aft_bit hL]
    by_cases hk:k=0
    · rw [if_pos hk,Bool.and_false,Nat.zero_testBit]
    · rw [if_neg hk,Nat.zero_testBit,Bool.and_false,Nat.zero_testBit]
  by_cases hl:j+1<p
  · exact r.apart j (j+1) (by omega) hl (by show st L s (L+j)=st L s (L+(j+1));rw [h0];exact hz.symm)
  · have:st L s L=0:=by rw [← e,show L+p=L+j+1 by omega];exact hz
    exact r.apart 0 j (by omega) hj (by show st L s (L+0)=st L s (L+j);rw [h0];exact this)
theorem run_shift {T L:Nat} {s:Nat→Bool} (hs : ∀ i,L≤i→s i=pred T L s i) (k:Nat) {i:Nat} (hi:L≤i):s (k+i)=pred T L (fun j=>s (k+j)) i:=by
  rw [hs (k+i) (by omega)]
  unfold pred
  refine zYv fun j hj=>?_
  rw [show k+i - 1 - j=k+(i - 1 - j) by omega]
theorem st_shift {L:Nat} (hL:L≤128) (s:Nat→Bool) (k i:Nat):st L (fun j=>s (k+j)) (L+i)=st L s (L+(k+i)):=by
  apply Nat.eq_of_testBit_eq
  intro j
  rw [xGz hL,xGz hL]
  by_cases hj:j<L
  · rw [decide_eq_true hj,decide_eq_true (show j<L+i by omega),decide_eq_true (show j<L+(k+i) by omega),show k+(L+i - 1 - j)=L+(k+i) - 1 - j by omega]
  · rw [decide_eq_false hj];rfl
end Go.Ev
end

section
namespace Go.Proofs.Ytmincoafjnnkpaa
open Go.Ev
set_option maxRecDepth 100000
set_option linter.unusedSimpArgs false
set_option linter.unusedVariables false
set_option maxHeartbeats 2000000
theorem tEvZ34 :type_of% (And.intro (And.intro (And.intro (And.intro (And.intro (And.intro (And.intro (@yQx) (@yQy)) (And.intro (@yQz) (@yPv))) (And.intro (And.intro (@yPw) (@yPx)) (And.intro (@ia_2) (And.intro (@ia_3) (@ia_4))))) (And.intro (And.intro (And.intro (@ia_5) (@yPy)) (And.intro (@yPz) (@yOv))) (And.intro (And.intro (@yOw) (@yOx)) (And.intro (@yOy) (And.intro (@zRv) (@yOz)))))) (And.intro (And.intro (And.intro (And.intro (@yNv) (@yNw)) (And.intro (@yNx) (@yNy))) (And.intro (And.intro (@yNz) (@yMv)) (And.intro (@yMw) (And.intro (@yMx) (@sz_2))))) (And.intro (And.intro (And.intro (@sz_3) (@sz_4)) (And.intro (@sz_5) (And.intro (@zQv) (@zYw)))) (And.intro (And.intro (@zYx) (@zYy)) (And.intro (@zYz) (And.intro (@zXv) (@zRx))))))) (And.intro (And.intro (And.intro (And.intro (And.intro (@zXw) (@zXx)) (And.intro (@zXy) (@zQx))) (And.intro (And.intro (@zXz) (@zWv)) (And.intro (@zWw) (And.intro (@zWx) (@zWy))))) (And.intro (And.intro (And.intro (@ze_2) (@ze_3)) (And.intro (@ze_4) (And.intro (@ze_5) (@zWz)))) (And.intro (And.intro (@zVv) (@zVw)) (And.intro (@zVx) (And.intro (@zVy) (@zVz)))))) (And.intro (And.intro (And.intro (And.intro (@zUv) (@zUw)) (And.intro (@zUx) (@zUy))) (And.intro (And.intro (@zUz) (@zTv)) (And.intro (@zTw) (And.intro (@zTx) (@zTy))))) (And.intro (And.intro (And.intro (@zOy) (@zOz)) (And.intro (@zNv) (And.intro (@zNw) (@zNx)))) (And.intro (And.intro (@zNy) (@zNz)) (And.intro (@zMv) (And.intro (@zMw) (@yMy)))))))) (And.intro (And.intro (And.intro (And.intro (And.intro (And.intro (@yMz) (@yLv)) (And.intro (@yLw) (@yLx))) (And.intro (And.intro (@yLy) (@yLz)) (And.intro (@yKv) (And.intro (@yKw) (@yKx))))) (And.intro (And.intro (And.intro (@yKy) (@yKz)) (And.intro (@yJv) (@yJw))) (And.intro (And.intro (@yJx) (@yJy)) (And.intro (@yJz) (And.intro (@yIv) (@yIw)))))) (And.intro (And.intro (And.intro (And.intro (@yIx) (@yIy)) (And.intro (@yIz) (@yHv))) (And.intro (And.intro (@yHw) (@yHx)) (And.intro (@yHy) (And.intro (@yHz) (@yGv))))) (And.intro (And.intro (And.intro (@yGw) (@yGx)) (And.intro (@yGy) (And.intro (@yGz) (@yFv)))) (And.intro (And.intro (@yFw) (@yFx)) (And.intro (@yFy) (And.intro (@yFz) (@yEv))))))) (And.intro (And.intro (And.intro (And.intro (And.intro (@yEw) (@yEx)) (And.intro (@yEy) (@yEz))) (And.intro (And.intro (@yDv) (@yDw)) (And.intro (@yDx) (And.intro (@yDy) (@yDz))))) (And.intro (And.intro (And.intro (@yCv) (@yCw)) (And.intro (@yCx) (And.intro (@yCy) (@yCz)))) (And.intro (And.intro (@zSz) (@yBv)) (And.intro (@yBw) (And.intro (@yBx) (@yBy)))))) (And.intro (And.intro (And.intro (And.intro (@yBz) (@yAv)) (And.intro (@yAw) (@yAx))) (And.intro (And.intro (@yAy) (@yAz)) (And.intro (@zZv) (And.intro (@zZw) (@zZx))))) (And.intro (And.intro (And.intro (@zZy) (@zZz)) (And.intro (@zQy) (And.intro (@zSv) (@zSw)))) (And.intro (And.intro (@zQw) (@zSx)) (And.intro (@zRy) (And.intro (@zSy) (@zRw))))))))):=And.intro (And.intro (And.intro (And.intro (And.intro (And.intro (And.intro (@yQx) (@yQy)) (And.intro (@yQz) (@yPv))) (And.intro (And.intro (@yPw) (@yPx)) (And.intro (@ia_2) (And.intro (@ia_3) (@ia_4))))) (And.intro (And.intro (And.intro (@ia_5) (@yPy)) (And.intro (@yPz) (@yOv))) (And.intro (And.intro (@yOw) (@yOx)) (And.intro (@yOy) (And.intro (@zRv) (@yOz)))))) (And.intro (And.intro (And.intro (And.intro (@yNv) (@yNw)) (And.intro (@yNx) (@yNy))) (And.intro (And.intro (@yNz) (@yMv)) (And.intro (@yMw) (And.intro (@yMx) (@sz_2))))) (And.intro (And.intro (And.intro (@sz_3) (@sz_4)) (And.intro (@sz_5) (And.intro (@zQv) (@zYw)))) (And.intro (And.intro (@zYx) (@zYy)) (And.intro (@zYz) (And.intro (@zXv) (@zRx))))))) (And.intro (And.intro (And.intro (And.intro (And.intro (@zXw) (@zXx)) (And.intro (@zXy) (@zQx))) (And.intro (And.intro (@zXz) (@zWv)) (And.intro (@zWw) (And.intro (@zWx) (@zWy))))) (And.intro (And.intro (And.intro (@ze_2) (@ze_3)) (And.intro (@ze_4) (And.intro (@ze_5) (@zWz)))) (And.intro (And.intro (@zVv) (@zVw)) (And.intro (@zVx) (And.intro (@zVy) (@zVz)))))) (And.intro (And.intro (And.intro (And.intro (@zUv) (@zUw)) (And.intro (@zUx) (@zUy))) (And.intro (And.intro (@zUz) (@zTv)) (And.intro (@zTw) (And.intro (@zTx) (@zTy))))) (And.intro (And.intro (And.intro (@zOy) (@zOz)) (And.intro (@zNv) (And.intro (@zNw) (@zNx)))) (And.intro (And.intro (@zNy) (@zNz)) (And.intro (@zMv) (And.intro (@zMw) (@yMy)))))))) (And.intro (And.intro (And.intro (And.intro (And.intro (And.intro (@yMz) (@yLv)) (And.intro (@yLw) (@yLx))) (And.intro (And.intro (@yLy) (@yLz)) (And.intro (@yKv) (And.intro (@yKw) (@yKx))))) (And.intro (And.intro (And.intro (@yKy) (@yKz)) (And.intro (@yJv) (@yJw))) (And.intro (And.intro (@yJx) (@yJy)) (And.intro (@yJz) (And.intro (@yIv) (@yIw)))))) (And.intro (And.intro (And.intro (And.intro (@yIx) (@yIy)) (And.intro (@yIz) (@yHv))) (And.intro (And.intro (@yHw) (@yHx)) (And.intro (@yHy) (And.intro (@yHz) (@yGv))))) (And.intro (And.intro (And.intro (@yGw) (@yGx)) (And.intro (@yGy) (And.intro (@yGz) (@yFv)))) (And.intro (And.intro (@yFw) (@yFx)) (And.intro (@yFy) (And.intro (@yFz) (@yEv))))))) (And.intro (And.intro (And.intro (And.intro (And.intro (@yEw) (@yEx)) (And.intro (@yEy) (@yEz))) (And.intro (And.intro (@yDv) (@yDw)) (And.intro (@yDx) (And.intro (@yDy) (@yDz))))) (And.intro (And.intro (And.intro (@yCv) (@yCw)) (And.intro (@yCx) (And.intro (@yCy) (@yCz)))) (And.intro (And.intro (@zSz) (@yBv)) (And.intro (@yBw) (And.intro (@yBx) (@yBy)))))) (And.intro (And.intro (And.intro (And.intro (@yBz) (@yAv)) (And.intro (@yAw) (@yAx))) (And.intro (And.intro (@yAy) (@yAz)) (And.intro (@zZv) (And.intro (@zZw) (@zZx))))) (And.intro (And.intro (And.intro (@zZy) (@zZz)) (And.intro (@zQy) (And.intro (@zSv) (@zSw)))) (And.intro (And.intro (@zQw) (@zSx)) (And.intro (@zRy) (And.intro (@zSy) (@zRw))))))))
theorem keyT :KeyT Try.prog 78 57 55:=⟨⟨_,Try.underlying78,rfl,rfl,by decide⟩,un_57,⟨_,un_55⟩,by kernel_rfl,by kernel_rfl,by kernel_rfl⟩
theorem ze4 :zeroE Try.prog 4=some (.bool false):=by kernel_rfl
theorem bi_delete {P:Program} {t u:TypeId} {ty:TypeId} {m k:AV} {h:H} : builtinE P .delete [t,u] ty [m,k] h=deleteE P t m k h:=rfl
theorem makeMap_none {P:Program} {tm:M AV} {t:TypeId} {h:H} : makeMapE P tm t none h=newMap h:=rfl
theorem wd_small {n:Nat} (h:n<2 ^ 64):wd n=[uu n,.int .u64 0]:=by
  unfold wd
  rw [Nat.mod_eq_of_lt h,Nat.shiftRight_eq_div_pow,Nat.div_eq_of_lt h];rfl
theorem period (T L:Nat) (hL:L≤12) (hT:T<2 ^ 128) (bs:List Bool) (hb:bs.length=L) (m:Nat→Bool) (hm:IsRun T L (fun i=>bs.getD i false) m) (a:AV) (h:H) (wf:Wf h) (hs:Sl h a 1 bs.length (bs.map bi)) :
    ∃ p:Nat,FirstRep (fun i=>st L m (L+i)) p∧p≤2 ^ L∧((∃ x,x<2 ^ L ∧ ∀ j,j<p→(fun i=>st L m (L+i)) j≠x)→p<2 ^ L)∧(om Try.prog KK).call (.fn 59 [.agg (rg T L),a]) h = .ok (ii (p:Int)) h:=by
  suffices hW:WV ((om Try.prog KK).call (.fn 59 [.agg (rg T L),a]) h) fun r h'=>∃ p:Nat,FirstRep (fun i=>st L m (L+i)) p∧p≤2 ^ L∧((∃ x,x<2 ^ L ∧ ∀ j,j<p→(fun i=>st L m (L+i)) j≠x)→p<2 ^ L)∧r=ii (p:Int)∧h'=h by
    obtain ⟨r,h',e,p,h1,h2,h3,rfl,rfl⟩:=hW
    exact ⟨p,h1,h2,h3,e⟩
  obtain ⟨f1,f2⟩:=zPv hs
  have hpow:2 ^ L≤4096:=Nat.pow_le_pow_right (by omega) hL
  have hpow0:0<2 ^ L:=Nat.two_pow_pos L
  have hsh:((1 <<< min L 64) % 2 ^ 64:Nat)=2 ^ L:=by
    rw [Nat.min_eq_left (by omega),Nat.shiftLeft_eq,Nat.one_mul,Nat.mod_eq_of_lt (by omega)]
  have hsl : ∀ x y,binE Try.prog .shl 55 x y (.int .u64 1) (ii (L:Int))=some (.int .u64 ((2 ^ L:Nat):Int)):=fun x y=>by
    have:=ySv (P:=Try.prog) (t:=55) (x:=x) (y:=y) (a:=1) (k:=.i64) (n:=L)
    rw [hsh] at this
    exact this
  have cb : ∀ (l:List AO) (w:Nat),w≤h.clock+l.length→(om Try.prog KK).call (.fn 68 [.agg [uu (T % 2 ^ 64),uu (T >>> 64),ii (L:Int)],a]) (X h l w) = .ok (.agg (wd (st L m L))) (X h l w):=fun l w hw=>by
    have:=begun T L (by omega) bs (by omega) m (fun i hi=>by rw [hm.first i (by omega)];show bs.getD i false=_;rw [List.getD_eq_getElem?_getD,List.getElem?_eq_getElem hi];rfl) a _ (wf.X hw) (hs.up wf _ _)
    rw [hb] at this
    exact this
  refine zMy (fn:=Try.f59) Try.func59 rfl rfl rfl rfl rfl ?_
  simp only [zKv]
  unfold rg
  (repeat' (first
  | (with_reducible first|refine zJx ?_|refine zGw ?_|refine zFz ?_|refine zEv ?_|refine zFy ?_|refine zJw ?_|refine zGv ?_|refine zCz ?_|refine zDw ?_|refine zCy ?_|refine zCv ?_|refine zEx ?_|refine zDz ?_|refine zCx ?_|refine zBx ?_|refine zEz ?_|refine zEy ?_|refine zAw ?_|refine zBy ?_)
  | refine zDy ?_|refine zEw rfl ?_|refine zIv ?_|refine zJy ?_
  | ((first|refine zGx rfl rfl rfl rfl rfl fun K_ hK_=>?_|refine zGy rfl rfl rfl rfl rfl fun K_ hK_=>?_);simp only [zAz,zDx,zGz,↓reduceIte,reduceCtorEq,Nat.reduceEqDiff,Bool.not_true,Bool.not_false];refine hK_ _ ?_;clear hK_ K_)
  | refine zDv (by decide) ?_
  | ((try first|refine zKy rfl rfl rfl ?_|refine zIw rfl rfl ?_|refine zKx rfl rfl rfl ?_|refine zJz rfl rfl ?_);(refine zIx fun Q_ hQ_=>?_;simp (disch:=first|omega|(simp only [List.length_cons,List.length_nil,List.length_append];omega)) only [bb,bp,zKv,↓reduceIte,reduceCtorEq,Nat.reduceEqDiff,Nat.reduceLT,Nat.reduceLeDiff,Nat.reduceAdd,Nat.reduceMul,Nat.reduceSub,Nat.reduceBEq,Int.reduceToNat,cond_true,cond_false,eq_self,beq_self_eq_true,hsl,makeMap_none,newMap_X wf,f1,f2,zFx wf,zHx wf,zBv wf,zFw wf,zAy wf,zAx,tEvZ34,zIy,zIz,zHv,zHw,zAv wf];first|(refine zCw (Q:=Q_) (fun hp_=>?_) (fun hp_=>?_) <;> first|(exfalso;omega)|(refine hQ_ _ _ ?_;clear hQ_ Q_))|(refine zBw (Q:=Q_) (fun hp_=>?_) (fun hp_=>?_) <;> first|(exfalso;omega)|(refine hQ_ _ _ ?_;clear hQ_ Q_))|(refine hQ_ _ _ ?_;clear hQ_ Q_)))
  | (refine zHz fun K_ hK_=>?_;simp (disch:=omega) only [zFv,zAz,zHy,↓reduceIte,reduceCtorEq,Nat.reduceEqDiff,Nat.reduceLT];refine hK_ _ ?_;clear hK_ K_)))
  refine zOw (α:=Nat) (fun (n:Nat) f d h'=>n≤2 ^ L∧f 1=a∧f 2 = .ptr (nx h 0) 0∧f 5 = .map (nx h 1)∧f 12=uu (2 ^ L)∧f 13=uu n∧d=[] ∧
    ∃ o w,MapN (List.range n) o∧h.clock≤w∧w≤h.clock+2∧h'=X h [.cells (zBz [uu (T % 2 ^ 64),uu (T >>> 64),ii (L:Int)]) 59,o] w) (fun n=>2 ^ L - n) ?_ (2 ^ L+1) 0 (by omega) ?_
  · rintro n f d h' ⟨hn,g1,g2,g5,g12,g13,rfl,o,w,mo,hw,hwl,rfl⟩
    have hl64 : ∀ x y,binE Try.prog .lss 55 x y (uu n) (uu (2 ^ L))=some (.bool (decide (n<2 ^ L))):=fun x y=>by
      have:=yTz (P:=Try.prog) (t:=55) (x:=x) (y:=y) (a:=n) (b:=2 ^ L)
      exact this
    by_cases hlt:n<2 ^ L
    · rw [decide_eq_true hlt] at hl64
      obtain ⟨o',mo',hset⟩:=mo.set (L:=[.cells (zBz [uu (T % 2 ^ 64),uu (T >>> 64),ii (L:Int)]) 59,o]) (k:=1) wf rfl un_87 keyT (n:=n) (by rw [List.mem_range];omega)
      rw [← List.range_succ] at mo'
      rw [wd_small (by omega)] at hset
      have hset : ∀ w,updateE Try.prog 87 (.map (nx h 1)) (.agg [uu n,.int .u64 0]) (.bool true) (X h [.cells (zBz [uu (T % 2 ^ 64),uu (T >>> 64),ii (L:Int)]) 59,o] w)=some (X h [.cells (zBz [uu (T % 2 ^ 64),uu (T >>> 64),ii (L:Int)]) 59,o'] (min (h.clock+1) w)):=hset
      have hadd : ∀ x y,binE Try.prog .add 55 x y (uu n) (.int .u64 1)=some (uu (n+1)):=fun x y=>by
        have:=ySy (P:=Try.prog) (t:=55) (x:=x) (y:=y) (a:=n) (b:=1)
        rw [Nat.mod_eq_of_lt (by omega)] at this
        exact this
      generalize 2 ^ L=N at *
      (repeat' (first
  | (with_reducible first|refine zJx ?_|refine zGw ?_|refine zFz ?_|refine zEv ?_|refine zFy ?_|refine zJw ?_|refine zGv ?_|refine zCz ?_|refine zDw ?_|refine zCy ?_|refine zCv ?_|refine zEx ?_|refine zDz ?_|refine zCx ?_|refine zBx ?_|refine zEz ?_|refine zEy ?_|refine zAw ?_|refine zBy ?_)
  | refine zDy ?_|refine zEw rfl ?_|refine zIv ?_|refine zJy ?_
  | ((first|refine zGx rfl rfl rfl rfl rfl fun K_ hK_=>?_|refine zGy rfl rfl rfl rfl rfl fun K_ hK_=>?_);simp only [zAz,zDx,zGz,↓reduceIte,reduceCtorEq,Nat.reduceEqDiff,Bool.not_true,Bool.not_false];refine hK_ _ ?_;clear hK_ K_)
  | refine zDv (by decide) ?_
  | ((try first|refine zKy rfl rfl rfl ?_|refine zIw rfl rfl ?_|refine zKx rfl rfl rfl ?_|refine zJz rfl rfl ?_);(refine zIx fun Q_ hQ_=>?_;simp (disch:=first|omega|(simp only [List.length_cons,List.length_nil,List.length_append];omega)) only [bb,bp,zKv,↓reduceIte,reduceCtorEq,Nat.reduceEqDiff,Nat.reduceLT,Nat.reduceLeDiff,Nat.reduceAdd,Nat.reduceMul,Nat.reduceSub,Nat.reduceBEq,Int.reduceToNat,cond_true,cond_false,eq_self,beq_self_eq_true,hl64,hset,hadd,g1,g2,g5,g12,g13,f1,f2,zFx wf,zHx wf,zBv wf,zFw wf,zAy wf,zAx,tEvZ34,zIy,zIz,zHv,zHw,zAv wf];first|(refine zCw (Q:=Q_) (fun hp_=>?_) (fun hp_=>?_) <;> first|(exfalso;omega)|(refine hQ_ _ _ ?_;clear hQ_ Q_))|(refine zBw (Q:=Q_) (fun hp_=>?_) (fun hp_=>?_) <;> first|(exfalso;omega)|(refine hQ_ _ _ ?_;clear hQ_ Q_))|(refine hQ_ _ _ ?_;clear hQ_ Q_)))
  | (refine zHz fun K_ hK_=>?_;simp (disch:=omega) only [zFv,zAz,zHy,↓reduceIte,reduceCtorEq,Nat.reduceEqDiff,Nat.reduceLT];refine hK_ _ ?_;clear hK_ K_)))
      exact zJv (n+1) (by omega) ⟨hlt,by simp only [zAz,↓reduceIte,reduceCtorEq,Nat.reduceEqDiff];exact g1,by simp only [zAz,↓reduceIte,reduceCtorEq,Nat.reduceEqDiff];exact g2,by simp only [zAz,↓reduceIte,reduceCtorEq,Nat.reduceEqDiff];exact g5,by simp only [zAz,↓reduceIte,reduceCtorEq,Nat.reduceEqDiff];exact g12,by simp only [zAz,↓reduceIte,reduceCtorEq,Nat.reduceEqDiff];try rfl,rfl,o',_,mo',by omega,by omega,rfl⟩
    · rw [decide_eq_false hlt] at hl64
      have hne:n=2 ^ L:=by omega
      subst hne
      have hstep : ∀ i,st L m (L+(i+1))=aft L (st L m (L+i)) (m (L+i)):=fun i=>rfl
      have hnx : ∀ i,nextB T (st L m (L+i))=m (L+i):=fun i=>by rw [next_st (by omega) m (by omega),hm.then_ (L+i) (by omega)]
      have hltN : ∀ i,st L m (L+i)<2 ^ L:=fun i=>st_lt L m _
      have hw0:st L m L=st L m (L+0):=rfl
      rw [hw0] at cb
      generalize hoo:(fun i=>st L m (L+i))=oo at *
      have hoo' : ∀ i,st L m (L+i)=oo i:=fun i=>by rw [← hoo]
      simp only [hoo'] at hstep hnx hltN cb
      have cb:=cb
      unfold wd at cb
      (repeat' (first
  | (with_reducible first|refine zJx ?_|refine zGw ?_|refine zFz ?_|refine zEv ?_|refine zFy ?_|refine zJw ?_|refine zGv ?_|refine zCz ?_|refine zDw ?_|refine zCy ?_|refine zCv ?_|refine zEx ?_|refine zDz ?_|refine zCx ?_|refine zBx ?_|refine zEz ?_|refine zEy ?_|refine zAw ?_|refine zBy ?_)
  | refine zDy ?_|refine zEw rfl ?_|refine zIv ?_|refine zJy ?_
  | ((first|refine zGx rfl rfl rfl rfl rfl fun K_ hK_=>?_|refine zGy rfl rfl rfl rfl rfl fun K_ hK_=>?_);simp only [zAz,zDx,zGz,↓reduceIte,reduceCtorEq,Nat.reduceEqDiff,Bool.not_true,Bool.not_false];refine hK_ _ ?_;clear hK_ K_)
  | refine zDv (by decide) ?_
  | ((try first|refine zKy rfl rfl rfl ?_|refine zIw rfl rfl ?_|refine zKx rfl rfl rfl ?_|refine zJz rfl rfl ?_);(refine zIx fun Q_ hQ_=>?_;simp (disch:=first|omega|(simp only [List.length_cons,List.length_nil,List.length_append];omega)) only [bb,bp,zKv,↓reduceIte,reduceCtorEq,Nat.reduceEqDiff,Nat.reduceLT,Nat.reduceLeDiff,Nat.reduceAdd,Nat.reduceMul,Nat.reduceSub,Nat.reduceBEq,Int.reduceToNat,cond_true,cond_false,eq_self,beq_self_eq_true,hl64,g1,g2,g5,g12,g13,f1,f2,zFx wf,zHx wf,zBv wf,zFw wf,zAy wf,zAx,tEvZ34,zIy,zIz,zHv,zHw,zAv wf];first|(refine zCw (Q:=Q_) (fun hp_=>?_) (fun hp_=>?_) <;> first|(exfalso;omega)|(refine hQ_ _ _ ?_;clear hQ_ Q_))|(refine zBw (Q:=Q_) (fun hp_=>?_) (fun hp_=>?_) <;> first|(exfalso;omega)|(refine hQ_ _ _ ?_;clear hQ_ Q_))|(refine hQ_ _ _ ?_;clear hQ_ Q_)|(refine zOv (cb _ _ (by first|omega|(simp only [List.length_append,List.length_cons,List.length_nil];omega))) ?_;refine hQ_ _ _ ?_;clear hQ_ Q_)))
  | (refine zHz fun K_ hK_=>?_;simp (disch:=omega) only [zFv,zAz,zHy,↓reduceIte,reduceCtorEq,Nat.reduceEqDiff,Nat.reduceLT];refine hK_ _ ?_;clear hK_ K_)))
      refine zOw (α:=Nat) (fun (i:Nat) f d h'=>f 2 = .ptr (nx h 0) 0∧f 5 = .map (nx h 1)∧f 7=ii (i:Int)∧d=[]∧(∀ j k,j<k→k<i→oo j≠oo k) ∧
        ∃ Lo o ks q w,f 8 = .ptr (nx h q) 0∧2≤q∧Lo[0]? = some (.cells (zBz [uu (T % 2 ^ 64),uu (T >>> 64),ii (L:Int)]) 59)∧Lo[1]? = some o∧Lo[q]? = some (.cells (zBz [uu (oo i % 2 ^ 64),uu (oo i >>> 64)]) 78)∧MapN ks o∧ks.Nodup∧ks.length+i=2 ^ L∧(∀ x,x ∈ ks ↔ x<2 ^ L ∧ ∀ j,j<i→oo j≠x)∧h.clock≤w∧w≤h.clock+Lo.length∧h'=X h Lo w) (fun i=>2 ^ L - i) ?_ (2 ^ L+1) 0 (by omega) ?_
      · clear mo g1 g2 g5 g12 g13 hw hwl hl64
        rintro i f d h' ⟨g2,g5,g7,rfl,hap,Lo,o,ks,q,w,g8,hq2,h0,h1,hq,mo,nd,hlen,hmem,hw,hwl,rfl⟩
        have hlk:=fun w=>mo.look (w:=w) (et:=4) wf h1 un_87 keyT ze4 (oo i)
        unfold wd at hlk
        have hLq:=zLv hq
        by_cases hin:oo i ∈ ks
        · rw [decide_eq_true hin] at hlk
          obtain ⟨o',mo',hdel⟩:=mo.del wf h1 un_87 keyT (oo i)
          unfold wd at hdel
          have hL2:(Lo.set 1 o')[q]? = some (.cells (zBz [uu (oo i % 2 ^ 64),uu (oo i >>> 64)]) 78):=by rw [List.getElem?_set_ne (by omega)];exact hq
          have hL0 : ∀ J:List AO,(Lo.set 1 o'++J)[0]? = some (.cells (zBz [uu (T % 2 ^ 64),uu (T >>> 64),ii (L:Int)]) 59):=fun J=>by
            rw [List.getElem?_append_left (by rw [List.length_set];omega),List.getElem?_set_ne (by omega)];exact h0
          have hL1:(Lo.set 1 o')[1]? = some o':=List.getElem?_set_self (by omega)
          have hLl:(Lo.set 1 o').length=Lo.length:=List.length_set
          generalize hL2e:Lo.set 1 o'=L2 at *
          have cN : ∀ (l:List AO) (w:Nat),w≤h.clock+l.length→(om Try.prog KK).call (.fn 69 [.agg [uu (T % 2 ^ 64),uu (T >>> 64),ii (L:Int)],.agg [uu (oo i % 2 ^ 64),uu (oo i >>> 64)]]) (X h l w) = .ok (bi (m (L+i))) (X h l w):=fun l w hw=>by
            rw [← hnx i];exact next T L (oo i) hT _ (wf.X hw)
          have cA : ∀ (l:List AO) (w:Nat),w≤h.clock+l.length→(om Try.prog KK).call (.fn 70 [.agg [uu (T % 2 ^ 64),uu (T >>> 64),ii (L:Int)],.agg [uu (oo i % 2 ^ 64),uu (oo i >>> 64)],bi (m (L+i))]) (X h l w) = .ok (.agg [uu (oo (i+1) % 2 ^ 64),uu (oo (i+1) >>> 64)]) (X h l w):=fun l w hw=>by
            rw [hstep i];exact after T L (oo i) (m (L+i)) (by omega) _ (wf.X hw)
          have hi1:(i:Int)+1=((i+1:Nat):Int):=by omega
          have hiN:i<2 ^ L:=by
            have:=List.length_pos_of_mem hin
            omega
          have hbm1:oneB (bi (m (L+i)))=true:=rfl
          have hbm2:AV.cells (bi (m (L+i)))=[bi (m (L+i))]:=rfl
          generalize hbm:bi (m (L+i))=bm at *
          (repeat' (first
  | (with_reducible first|refine zJx ?_|refine zGw ?_|refine zFz ?_|refine zEv ?_|refine zFy ?_|refine zJw ?_|refine zGv ?_|refine zCz ?_|refine zDw ?_|refine zCy ?_|refine zCv ?_|refine zEx ?_|refine zDz ?_|refine zCx ?_|refine zBx ?_|refine zEz ?_|refine zEy ?_|refine zAw ?_|refine zBy ?_)
  | refine zDy ?_|refine zEw rfl ?_|refine zIv ?_|refine zJy ?_
  | ((first|refine zGx rfl rfl rfl rfl rfl fun K_ hK_=>?_|refine zGy rfl rfl rfl rfl rfl fun K_ hK_=>?_);simp only [zAz,zDx,zGz,↓reduceIte,reduceCtorEq,Nat.reduceEqDiff,Bool.not_true,Bool.not_false];refine hK_ _ ?_;clear hK_ K_)
  | refine zDv (by decide) ?_
  | ((try first|refine zKy rfl rfl rfl ?_|refine zIw rfl rfl ?_|refine zKx rfl rfl rfl ?_|refine zJz rfl rfl ?_);(refine zIx fun Q_ hQ_=>?_;simp (disch:=first|omega|(simp only [List.length_cons,List.length_nil,List.length_append];omega)) only [bb,bp,zKv,↓reduceIte,reduceCtorEq,Nat.reduceEqDiff,Nat.reduceLT,Nat.reduceLeDiff,Nat.reduceAdd,Nat.reduceMul,Nat.reduceSub,Nat.reduceBEq,Int.reduceToNat,cond_true,cond_false,eq_self,beq_self_eq_true,hlk,hdel,bi_delete,g2,g5,g7,g8,h0,hq,hL2,hL0,hi1,hbm1,hbm2,f1,f2,zFx wf,zHx wf,zBv wf,zFw wf,zAy wf,zAx,tEvZ34,zIy,zIz,zHv,zHw,zAv wf];first|(refine zCw (Q:=Q_) (fun hp_=>?_) (fun hp_=>?_) <;> first|(exfalso;omega)|(refine hQ_ _ _ ?_;clear hQ_ Q_))|(refine zBw (Q:=Q_) (fun hp_=>?_) (fun hp_=>?_) <;> first|(exfalso;omega)|(refine hQ_ _ _ ?_;clear hQ_ Q_))|(refine hQ_ _ _ ?_;clear hQ_ Q_)|(refine zOv (cN _ _ (by first|omega|(simp only [List.length_append,List.length_cons,List.length_nil];omega))) ?_;refine hQ_ _ _ ?_;clear hQ_ Q_)|(refine zOv (cA _ _ (by first|omega|(simp only [List.length_append,List.length_cons,List.length_nil];omega))) ?_;refine hQ_ _ _ ?_;clear hQ_ Q_)))
  | (refine zHz fun K_ hK_=>?_;simp (disch:=omega) only [zFv,zAz,zHy,↓reduceIte,reduceCtorEq,Nat.reduceEqDiff,Nat.reduceLT];refine hK_ _ ?_;clear hK_ K_)))
          refine zPy [.no,.no,.no,.no,.no,.full,.full] (by kernel_rfl) ?_
          have cNl : ∀ w,w≤h.clock+(L2.length+1)→_:=fun w hw=>cN (L2++[.cells (zBz [uu (oo i % 2 ^ 64),uu (oo i >>> 64)]) 78]) w (by rw [List.length_append];exact hw)
          have cAl : ∀ w,w≤h.clock+(L2.length+1)→_:=fun w hw=>cA (L2++[.cells (zBz [uu (oo i % 2 ^ 64),uu (oo i >>> 64)]) 78]) w (by rw [List.length_append];exact hw)
          (repeat' (first
  | (with_reducible first|refine zJx ?_|refine zGw ?_|refine zFz ?_|refine zEv ?_|refine zFy ?_|refine zJw ?_|refine zGv ?_|refine zCz ?_|refine zDw ?_|refine zCy ?_|refine zCv ?_|refine zEx ?_|refine zDz ?_|refine zCx ?_|refine zBx ?_|refine zEz ?_|refine zEy ?_|refine zAw ?_|refine zBy ?_)
  | refine zDy ?_|refine zEw rfl ?_|refine zIv ?_|refine zJy ?_
  | ((first|refine zGx rfl rfl rfl rfl rfl fun K_ hK_=>?_|refine zGy rfl rfl rfl rfl rfl fun K_ hK_=>?_);simp only [zAz,zDx,zGz,↓reduceIte,reduceCtorEq,Nat.reduceEqDiff,Bool.not_true,Bool.not_false];refine hK_ _ ?_;clear hK_ K_)
  | refine zDv (by decide) ?_
  | ((try first|refine zKy rfl rfl rfl ?_|refine zIw rfl rfl ?_|refine zKx rfl rfl rfl ?_|refine zJz rfl rfl ?_);(refine zIx fun Q_ hQ_=>?_;simp (disch:=first|omega|(simp only [List.length_cons,List.length_nil,List.length_append];omega)) only [bb,bp,zKv,↓reduceIte,reduceCtorEq,Nat.reduceEqDiff,Nat.reduceLT,Nat.reduceLeDiff,Nat.reduceAdd,Nat.reduceMul,Nat.reduceSub,Nat.reduceBEq,Int.reduceToNat,cond_true,cond_false,eq_self,beq_self_eq_true,cNl,cAl,g2,g5,g7,g8,h0,hq,hL2,hL0,hi1,hbm1,hbm2,f1,f2,zFx wf,zHx wf,zBv wf,zFw wf,zAy wf,zAx,tEvZ34,zIy,zIz,zHv,zHw,zAv wf];first|(refine zCw (Q:=Q_) (fun hp_=>?_) (fun hp_=>?_) <;> first|(exfalso;omega)|(refine hQ_ _ _ ?_;clear hQ_ Q_))|(refine zBw (Q:=Q_) (fun hp_=>?_) (fun hp_=>?_) <;> first|(exfalso;omega)|(refine hQ_ _ _ ?_;clear hQ_ Q_))|(refine hQ_ _ _ ?_;clear hQ_ Q_)))
  | (refine zHz fun K_ hK_=>?_;simp (disch:=omega) only [zFv,zAz,zHy,↓reduceIte,reduceCtorEq,Nat.reduceEqDiff,Nat.reduceLT];refine hK_ _ ?_;clear hK_ K_)))
          refine zJv (i+1) (by omega) ⟨by simp only [zAz,↓reduceIte,reduceCtorEq,Nat.reduceEqDiff];exact g2,by simp only [zAz,↓reduceIte,reduceCtorEq,Nat.reduceEqDiff];exact g5,by simp only [zAz,↓reduceIte,reduceCtorEq,Nat.reduceEqDiff],rfl,fun j k hj hk=>?_,_,o',ks.erase (oo i),L2.length,_,by simp only [zAz,↓reduceIte,reduceCtorEq,Nat.reduceEqDiff],by omega,hL0 _,?_,yWw,mo',nd.erase _,?_,fun x=>?_,?_,?_,rfl⟩
          · by_cases hki:k<i
            · exact hap j k hj hki
            · rw [show k=i by omega]
              exact ((hmem _).1 hin).2 j (by omega)
          · rw [List.getElem?_append_left (by omega)];exact hL1
          · have:=List.length_pos_of_mem hin
            rw [List.length_erase_of_mem hin];omega
          · rw [nd.mem_erase_iff,hmem]
            constructor
            · rintro ⟨hx1,hx2,hx3⟩
              refine ⟨hx2,fun j hj=>?_⟩
              by_cases hji:j<i
              · exact hx3 j hji
              · rw [show j=i by omega];exact fun e=>hx1 e.symm
            · rintro ⟨hx2,hx3⟩
              exact ⟨fun e=>hx3 i (by omega) e.symm,hx2,fun j hj=>hx3 j (by omega)⟩
          · omega
          · rw [List.length_append];simp only [List.length_cons,List.length_nil];omega
        · rw [decide_eq_false hin] at hlk
          (repeat' (first
  | (with_reducible first|refine zJx ?_|refine zGw ?_|refine zFz ?_|refine zEv ?_|refine zFy ?_|refine zJw ?_|refine zGv ?_|refine zCz ?_|refine zDw ?_|refine zCy ?_|refine zCv ?_|refine zEx ?_|refine zDz ?_|refine zCx ?_|refine zBx ?_|refine zEz ?_|refine zEy ?_|refine zAw ?_|refine zBy ?_)
  | refine zDy ?_|refine zEw rfl ?_|refine zIv ?_|refine zJy ?_
  | ((first|refine zGx rfl rfl rfl rfl rfl fun K_ hK_=>?_|refine zGy rfl rfl rfl rfl rfl fun K_ hK_=>?_);simp only [zAz,zDx,zGz,↓reduceIte,reduceCtorEq,Nat.reduceEqDiff,Bool.not_true,Bool.not_false];refine hK_ _ ?_;clear hK_ K_)
  | refine zDv (by decide) ?_
  | ((try first|refine zKy rfl rfl rfl ?_|refine zIw rfl rfl ?_|refine zKx rfl rfl rfl ?_|refine zJz rfl rfl ?_);(refine zIx fun Q_ hQ_=>?_;simp (disch:=first|omega|(simp only [List.length_cons,List.length_nil,List.length_append];omega)) only [bb,bp,zKv,↓reduceIte,reduceCtorEq,Nat.reduceEqDiff,Nat.reduceLT,Nat.reduceLeDiff,Nat.reduceAdd,Nat.reduceMul,Nat.reduceSub,Nat.reduceBEq,Int.reduceToNat,cond_true,cond_false,eq_self,beq_self_eq_true,hlk,g2,g5,g7,g8,h0,hq,f1,f2,zFx wf,zHx wf,zBv wf,zFw wf,zAy wf,zAx,tEvZ34,zIy,zIz,zHv,zHw,zAv wf];first|(refine zCw (Q:=Q_) (fun hp_=>?_) (fun hp_=>?_) <;> first|(exfalso;omega)|(refine hQ_ _ _ ?_;clear hQ_ Q_))|(refine zBw (Q:=Q_) (fun hp_=>?_) (fun hp_=>?_) <;> first|(exfalso;omega)|(refine hQ_ _ _ ?_;clear hQ_ Q_))|(refine hQ_ _ _ ?_;clear hQ_ Q_)))
  | (refine zHz fun K_ hK_=>?_;simp (disch:=omega) only [zFv,zAz,zHy,↓reduceIte,reduceCtorEq,Nat.reduceEqDiff,Nat.reduceLT];refine hK_ _ ?_;clear hK_ K_)))
          (refine zKw _ _ rfl (ret1 (by decide)) ?_;simp only [zAz,↓reduceIte,reduceCtorEq,Nat.reduceEqDiff];refine zLy rfl (by omega) ?_)
          refine ⟨i,⟨hap,?_⟩,by omega,fun ⟨x,hx1,hx2⟩=>by have:=List.length_pos_of_mem ((hmem x).2 ⟨hx1,fun j hj=>by rw [← hoo' j];exact hx2 j hj⟩);omega,rfl,rfl⟩
          refine Classical.byContradiction fun hno=>hin ((hmem _).2 ⟨hltN i,fun j hj e=>hno ⟨j,hj,e.symm⟩⟩)
      · exact ⟨by simp only [zAz,↓reduceIte,reduceCtorEq,Nat.reduceEqDiff];exact g2,by simp only [zAz,↓reduceIte,reduceCtorEq,Nat.reduceEqDiff];exact g5,by simp only [zAz,↓reduceIte,reduceCtorEq,Nat.reduceEqDiff];try rfl,rfl,fun j k hj hk=>by omega,_,o,List.range (2 ^ L),2,_,by simp only [zAz,↓reduceIte,reduceCtorEq,Nat.reduceEqDiff],by omega,rfl,rfl,rfl,mo,List.nodup_range,by rw [List.length_range];rfl,fun x=>by rw [List.mem_range];exact ⟨fun hx=>⟨hx,fun j hj=>by omega⟩,fun hx=>hx.1⟩,by omega,by show _≤h.clock+3;omega,rfl⟩
  · exact ⟨Nat.zero_le _,by simp only [zAz,↓reduceIte,reduceCtorEq,Nat.reduceEqDiff],by simp only [zAz,↓reduceIte,reduceCtorEq,Nat.reduceEqDiff],by simp only [zAz,↓reduceIte,reduceCtorEq,Nat.reduceEqDiff],by simp only [zAz,↓reduceIte,reduceCtorEq,Nat.reduceEqDiff],by simp only [zAz,↓reduceIte,reduceCtorEq,Nat.reduceEqDiff];try rfl,rfl,_,_,MapN.nil,by omega,by omega,rfl⟩
end Go.Proofs.Ytmincoafjnnkpaa
end

section
namespace Go.Proofs.Ytmincoafjnnkpaa
open Go.Ev
set_option maxRecDepth 100000
set_option linter.unusedSimpArgs false
set_option linter.unusedVariables false
set_option maxHeartbeats 2000000
theorem tEvZ35 :type_of% (And.intro (And.intro (And.intro (And.intro (And.intro (And.intro (And.intro (@yQx) (@yQy)) (And.intro (@yQz) (@yPv))) (And.intro (And.intro (@yPw) (@yPx)) (And.intro (@ia_2) (And.intro (@ia_3) (@ia_4))))) (And.intro (And.intro (And.intro (@ia_5) (@yPy)) (And.intro (@yPz) (@yOv))) (And.intro (And.intro (@yOw) (@yOx)) (And.intro (@yOy) (And.intro (@zRv) (@yOz)))))) (And.intro (And.intro (And.intro (And.intro (@yNv) (@yNw)) (And.intro (@yNx) (@yNy))) (And.intro (And.intro (@yNz) (@yMv)) (And.intro (@yMw) (And.intro (@yMx) (@sz_2))))) (And.intro (And.intro (And.intro (@sz_3) (@sz_4)) (And.intro (@sz_5) (And.intro (@zQv) (@zYw)))) (And.intro (And.intro (@zYx) (@zYy)) (And.intro (@zYz) (And.intro (@zXv) (@zRx))))))) (And.intro (And.intro (And.intro (And.intro (And.intro (@zXw) (@zXx)) (And.intro (@zXy) (@zQx))) (And.intro (And.intro (@zXz) (@zWv)) (And.intro (@zWw) (And.intro (@zWx) (@zWy))))) (And.intro (And.intro (And.intro (@ze_2) (@ze_3)) (And.intro (@ze_4) (And.intro (@ze_5) (@zWz)))) (And.intro (And.intro (@zVv) (@zVw)) (And.intro (@zVx) (And.intro (@zVy) (@zVz)))))) (And.intro (And.intro (And.intro (And.intro (@zUv) (@zUw)) (And.intro (@zUx) (@zUy))) (And.intro (And.intro (@zUz) (@zTv)) (And.intro (@zTw) (And.intro (@zTx) (@zTy))))) (And.intro (And.intro (And.intro (@zOy) (@zOz)) (And.intro (@zNv) (And.intro (@zNw) (@zNx)))) (And.intro (And.intro (@zNy) (@zNz)) (And.intro (@zMv) (And.intro (@zMw) (@yMy)))))))) (And.intro (And.intro (And.intro (And.intro (And.intro (And.intro (@yMz) (@yLv)) (And.intro (@yLw) (@yLx))) (And.intro (And.intro (@yLy) (@yLz)) (And.intro (@yKv) (And.intro (@yKw) (@yKx))))) (And.intro (And.intro (And.intro (@yKy) (@yKz)) (And.intro (@yJv) (@yJw))) (And.intro (And.intro (@yJx) (@yJy)) (And.intro (@yJz) (And.intro (@yIv) (@yIw)))))) (And.intro (And.intro (And.intro (And.intro (@yIx) (@yIy)) (And.intro (@yIz) (@yHv))) (And.intro (And.intro (@yHw) (@yHx)) (And.intro (@yHy) (And.intro (@yHz) (@yGv))))) (And.intro (And.intro (And.intro (@yGw) (@yGx)) (And.intro (@yGy) (And.intro (@yGz) (@yFv)))) (And.intro (And.intro (@yFw) (@yFx)) (And.intro (@yFy) (And.intro (@yFz) (@yEv))))))) (And.intro (And.intro (And.intro (And.intro (And.intro (@yEw) (@yEx)) (And.intro (@yEy) (@yEz))) (And.intro (And.intro (@yDv) (@yDw)) (And.intro (@yDx) (And.intro (@yDy) (@yDz))))) (And.intro (And.intro (And.intro (@yCv) (@yCw)) (And.intro (@yCx) (And.intro (@yCy) (@yCz)))) (And.intro (And.intro (@zSz) (@yBv)) (And.intro (@yBw) (And.intro (@yBx) (@yBy)))))) (And.intro (And.intro (And.intro (And.intro (@yBz) (@yAv)) (And.intro (@yAw) (@yAx))) (And.intro (And.intro (@yAy) (@yAz)) (And.intro (@zZv) (And.intro (@zZw) (@zZx))))) (And.intro (And.intro (And.intro (@zZy) (@zZz)) (And.intro (@zQy) (And.intro (@zSv) (@zSw)))) (And.intro (And.intro (@zQw) (@zSx)) (And.intro (@zRy) (And.intro (@zSy) (@zRw))))))))):=And.intro (And.intro (And.intro (And.intro (And.intro (And.intro (And.intro (@yQx) (@yQy)) (And.intro (@yQz) (@yPv))) (And.intro (And.intro (@yPw) (@yPx)) (And.intro (@ia_2) (And.intro (@ia_3) (@ia_4))))) (And.intro (And.intro (And.intro (@ia_5) (@yPy)) (And.intro (@yPz) (@yOv))) (And.intro (And.intro (@yOw) (@yOx)) (And.intro (@yOy) (And.intro (@zRv) (@yOz)))))) (And.intro (And.intro (And.intro (And.intro (@yNv) (@yNw)) (And.intro (@yNx) (@yNy))) (And.intro (And.intro (@yNz) (@yMv)) (And.intro (@yMw) (And.intro (@yMx) (@sz_2))))) (And.intro (And.intro (And.intro (@sz_3) (@sz_4)) (And.intro (@sz_5) (And.intro (@zQv) (@zYw)))) (And.intro (And.intro (@zYx) (@zYy)) (And.intro (@zYz) (And.intro (@zXv) (@zRx))))))) (And.intro (And.intro (And.intro (And.intro (And.intro (@zXw) (@zXx)) (And.intro (@zXy) (@zQx))) (And.intro (And.intro (@zXz) (@zWv)) (And.intro (@zWw) (And.intro (@zWx) (@zWy))))) (And.intro (And.intro (And.intro (@ze_2) (@ze_3)) (And.intro (@ze_4) (And.intro (@ze_5) (@zWz)))) (And.intro (And.intro (@zVv) (@zVw)) (And.intro (@zVx) (And.intro (@zVy) (@zVz)))))) (And.intro (And.intro (And.intro (And.intro (@zUv) (@zUw)) (And.intro (@zUx) (@zUy))) (And.intro (And.intro (@zUz) (@zTv)) (And.intro (@zTw) (And.intro (@zTx) (@zTy))))) (And.intro (And.intro (And.intro (@zOy) (@zOz)) (And.intro (@zNv) (And.intro (@zNw) (@zNx)))) (And.intro (And.intro (@zNy) (@zNz)) (And.intro (@zMv) (And.intro (@zMw) (@yMy)))))))) (And.intro (And.intro (And.intro (And.intro (And.intro (And.intro (@yMz) (@yLv)) (And.intro (@yLw) (@yLx))) (And.intro (And.intro (@yLy) (@yLz)) (And.intro (@yKv) (And.intro (@yKw) (@yKx))))) (And.intro (And.intro (And.intro (@yKy) (@yKz)) (And.intro (@yJv) (@yJw))) (And.intro (And.intro (@yJx) (@yJy)) (And.intro (@yJz) (And.intro (@yIv) (@yIw)))))) (And.intro (And.intro (And.intro (And.intro (@yIx) (@yIy)) (And.intro (@yIz) (@yHv))) (And.intro (And.intro (@yHw) (@yHx)) (And.intro (@yHy) (And.intro (@yHz) (@yGv))))) (And.intro (And.intro (And.intro (@yGw) (@yGx)) (And.intro (@yGy) (And.intro (@yGz) (@yFv)))) (And.intro (And.intro (@yFw) (@yFx)) (And.intro (@yFy) (And.intro (@yFz) (@yEv))))))) (And.intro (And.intro (And.intro (And.intro (And.intro (@yEw) (@yEx)) (And.intro (@yEy) (@yEz))) (And.intro (And.intro (@yDv) (@yDw)) (And.intro (@yDx) (And.intro (@yDy) (@yDz))))) (And.intro (And.intro (And.intro (@yCv) (@yCw)) (And.intro (@yCx) (And.intro (@yCy) (@yCz)))) (And.intro (And.intro (@zSz) (@yBv)) (And.intro (@yBw) (And.intro (@yBx) (@yBy)))))) (And.intro (And.intro (And.intro (And.intro (@yBz) (@yAv)) (And.intro (@yAw) (@yAx))) (And.intro (And.intro (@yAy) (@yAz)) (And.intro (@zZv) (And.intro (@zZw) (@zZx))))) (And.intro (And.intro (And.intro (@zZy) (@zZz)) (And.intro (@zQy) (And.intro (@zSv) (@zSw)))) (And.intro (And.intro (@zQw) (@zSx)) (And.intro (@zRy) (And.intro (@zSy) (@zRw))))))))
def backB (T L:Nat):Bool:=decide (L=0) || T.testBit (L - 1)
theorem backB_iff {T L:Nat} : backB T L=true ↔ Back T L:=by
  unfold backB Back
  rw [Bool.or_eq_true,decide_eq_true_eq]
theorem comesBack (T L:Nat) (hL:L≤128) (h:H) (wf:Wf h):(om Try.prog KK).call (.fn 58 [.agg (rg T L)]) h = .ok (.bool (backB T L)) h:=by
  refine ySx (zMy (fn:=Try.f58) Try.func58 rfl rfl rfl rfl rfl ?_)
  simp only [zKv]
  unfold rg backB
  by_cases h0:L=0
  · subst h0
    (repeat' (first
  | (with_reducible first|refine zJx ?_|refine zGw ?_|refine zFz ?_|refine zEv ?_|refine zFy ?_|refine zJw ?_|refine zGv ?_|refine zCz ?_|refine zDw ?_|refine zCy ?_|refine zCv ?_|refine zEx ?_|refine zDz ?_|refine zCx ?_|refine zBx ?_|refine zEz ?_|refine zEy ?_|refine zAw ?_|refine zBy ?_)
  | refine zDy ?_|refine zEw rfl ?_|refine zIv ?_|refine zJy ?_
  | ((first|refine zGx rfl rfl rfl rfl rfl fun K_ hK_=>?_|refine zGy rfl rfl rfl rfl rfl fun K_ hK_=>?_);simp only [zAz,zDx,zGz,↓reduceIte,reduceCtorEq,Nat.reduceEqDiff,Bool.not_true,Bool.not_false];refine hK_ _ ?_;clear hK_ K_)
  | refine zDv (by decide) ?_
  | ((try first|refine zKy rfl rfl rfl ?_|refine zIw rfl rfl ?_|refine zKx rfl rfl rfl ?_|refine zJz rfl rfl ?_);(refine zIx fun Q_ hQ_=>?_;simp (disch:=first|omega|(simp only [List.length_cons,List.length_nil,List.length_append];omega)) only [bb,bp,zKv,↓reduceIte,reduceCtorEq,Nat.reduceEqDiff,Nat.reduceLT,Nat.reduceLeDiff,Nat.reduceAdd,Nat.reduceMul,Nat.reduceSub,Nat.reduceBEq,Int.reduceToNat,cond_true,cond_false,eq_self,beq_self_eq_true,zFx wf,zHx wf,zBv wf,zFw wf,zAy wf,zAx,tEvZ35,zIy,zIz,zHv,zHw,zAv wf];first|(refine zCw (Q:=Q_) (fun hp_=>?_) (fun hp_=>?_) <;> first|(exfalso;omega)|(refine hQ_ _ _ ?_;clear hQ_ Q_))|(refine zBw (Q:=Q_) (fun hp_=>?_) (fun hp_=>?_) <;> first|(exfalso;omega)|(refine hQ_ _ _ ?_;clear hQ_ Q_))|(refine hQ_ _ _ ?_;clear hQ_ Q_)))
  | (refine zHz fun K_ hK_=>?_;simp (disch:=omega) only [zFv,zAz,zHy,↓reduceIte,reduceCtorEq,Nat.reduceEqDiff,Nat.reduceLT];refine hK_ _ ?_;clear hK_ K_)))
    all_goals (refine zKw _ _ rfl (ret1 (by decide)) ?_;simp only [zAz,↓reduceIte,reduceCtorEq,Nat.reduceEqDiff];refine zLy rfl (by omega) ?_)
    all_goals exact ⟨rfl,rfl⟩
  · have hL1:(L:Int) - 1=((L - 1:Nat):Int):=by omega
    have hne : ¬ (L:Int)=0:=by omega
    rw [decide_eq_false h0,Bool.false_or]
    cases hb:T.testBit (L - 1)
    · have c1 : ∀ (l:List AO) (w:Nat),w≤h.clock+l.length→(om Try.prog KK).call (.fn 75 [.agg [uu (T % 2 ^ 64),uu (T >>> 64)],ii ((L - 1:Nat):Int)]) (X h l w) = .ok (.int .i64 0) (X h l w):=fun l w hw=>by
        have:=at_ T (L - 1) (by omega) _ (wf.X hw)
        rw [hb] at this
        exact this
      (repeat' (first
  | (with_reducible first|refine zJx ?_|refine zGw ?_|refine zFz ?_|refine zEv ?_|refine zFy ?_|refine zJw ?_|refine zGv ?_|refine zCz ?_|refine zDw ?_|refine zCy ?_|refine zCv ?_|refine zEx ?_|refine zDz ?_|refine zCx ?_|refine zBx ?_|refine zEz ?_|refine zEy ?_|refine zAw ?_|refine zBy ?_)
  | refine zDy ?_|refine zEw rfl ?_|refine zIv ?_|refine zJy ?_
  | ((first|refine zGx rfl rfl rfl rfl rfl fun K_ hK_=>?_|refine zGy rfl rfl rfl rfl rfl fun K_ hK_=>?_);simp only [zAz,zDx,zGz,↓reduceIte,reduceCtorEq,Nat.reduceEqDiff,Bool.not_true,Bool.not_false];refine hK_ _ ?_;clear hK_ K_)
  | refine zDv (by decide) ?_
  | ((try first|refine zKy rfl rfl rfl ?_|refine zIw rfl rfl ?_|refine zKx rfl rfl rfl ?_|refine zJz rfl rfl ?_);(refine zIx fun Q_ hQ_=>?_;simp (disch:=first|omega|(simp only [List.length_cons,List.length_nil,List.length_append];omega)) only [bb,bp,zKv,↓reduceIte,reduceCtorEq,Nat.reduceEqDiff,Nat.reduceLT,Nat.reduceLeDiff,Nat.reduceAdd,Nat.reduceMul,Nat.reduceSub,Nat.reduceBEq,Int.reduceToNat,cond_true,cond_false,eq_self,beq_self_eq_true,hL1,hne,zFx wf,zHx wf,zBv wf,zFw wf,zAy wf,zAx,tEvZ35,zIy,zIz,zHv,zHw,zAv wf];first|(refine zCw (Q:=Q_) (fun hp_=>?_) (fun hp_=>?_) <;> first|(exfalso;omega)|(refine hQ_ _ _ ?_;clear hQ_ Q_))|(refine zBw (Q:=Q_) (fun hp_=>?_) (fun hp_=>?_) <;> first|(exfalso;omega)|(refine hQ_ _ _ ?_;clear hQ_ Q_))|(refine hQ_ _ _ ?_;clear hQ_ Q_)|(refine zOv (c1 _ _ (by first|omega|(simp only [List.length_append,List.length_cons,List.length_nil];omega))) ?_;refine hQ_ _ _ ?_;clear hQ_ Q_)))
  | (refine zHz fun K_ hK_=>?_;simp (disch:=omega) only [zFv,zAz,zHy,↓reduceIte,reduceCtorEq,Nat.reduceEqDiff,Nat.reduceLT];refine hK_ _ ?_;clear hK_ K_)))
      all_goals (refine zKw _ _ rfl (ret1 (by decide)) ?_;simp only [zAz,↓reduceIte,reduceCtorEq,Nat.reduceEqDiff];refine zLy rfl (by omega) ?_)
      all_goals exact ⟨rfl,rfl⟩
    · have c1 : ∀ (l:List AO) (w:Nat),w≤h.clock+l.length→(om Try.prog KK).call (.fn 75 [.agg [uu (T % 2 ^ 64),uu (T >>> 64)],ii ((L - 1:Nat):Int)]) (X h l w) = .ok (.int .i64 1) (X h l w):=fun l w hw=>by
        have:=at_ T (L - 1) (by omega) _ (wf.X hw)
        rw [hb] at this
        exact this
      (repeat' (first
  | (with_reducible first|refine zJx ?_|refine zGw ?_|refine zFz ?_|refine zEv ?_|refine zFy ?_|refine zJw ?_|refine zGv ?_|refine zCz ?_|refine zDw ?_|refine zCy ?_|refine zCv ?_|refine zEx ?_|refine zDz ?_|refine zCx ?_|refine zBx ?_|refine zEz ?_|refine zEy ?_|refine zAw ?_|refine zBy ?_)
  | refine zDy ?_|refine zEw rfl ?_|refine zIv ?_|refine zJy ?_
  | ((first|refine zGx rfl rfl rfl rfl rfl fun K_ hK_=>?_|refine zGy rfl rfl rfl rfl rfl fun K_ hK_=>?_);simp only [zAz,zDx,zGz,↓reduceIte,reduceCtorEq,Nat.reduceEqDiff,Bool.not_true,Bool.not_false];refine hK_ _ ?_;clear hK_ K_)
  | refine zDv (by decide) ?_
  | ((try first|refine zKy rfl rfl rfl ?_|refine zIw rfl rfl ?_|refine zKx rfl rfl rfl ?_|refine zJz rfl rfl ?_);(refine zIx fun Q_ hQ_=>?_;simp (disch:=first|omega|(simp only [List.length_cons,List.length_nil,List.length_append];omega)) only [bb,bp,zKv,↓reduceIte,reduceCtorEq,Nat.reduceEqDiff,Nat.reduceLT,Nat.reduceLeDiff,Nat.reduceAdd,Nat.reduceMul,Nat.reduceSub,Nat.reduceBEq,Int.reduceToNat,cond_true,cond_false,eq_self,beq_self_eq_true,hL1,hne,zFx wf,zHx wf,zBv wf,zFw wf,zAy wf,zAx,tEvZ35,zIy,zIz,zHv,zHw,zAv wf];first|(refine zCw (Q:=Q_) (fun hp_=>?_) (fun hp_=>?_) <;> first|(exfalso;omega)|(refine hQ_ _ _ ?_;clear hQ_ Q_))|(refine zBw (Q:=Q_) (fun hp_=>?_) (fun hp_=>?_) <;> first|(exfalso;omega)|(refine hQ_ _ _ ?_;clear hQ_ Q_))|(refine hQ_ _ _ ?_;clear hQ_ Q_)|(refine zOv (c1 _ _ (by first|omega|(simp only [List.length_append,List.length_cons,List.length_nil];omega))) ?_;refine hQ_ _ _ ?_;clear hQ_ Q_)))
  | (refine zHz fun K_ hK_=>?_;simp (disch:=omega) only [zFv,zAz,zHy,↓reduceIte,reduceCtorEq,Nat.reduceEqDiff,Nat.reduceLT];refine hK_ _ ?_;clear hK_ K_)))
      all_goals (refine zKw _ _ rfl (ret1 (by decide)) ?_;simp only [zAz,↓reduceIte,reduceCtorEq,Nat.reduceEqDiff];refine zLy rfl (by omega) ?_)
      all_goals exact ⟨rfl,rfl⟩
theorem perNone (xs ys:List Int) (he:err3 xs ys=0) (hlong:xs.length≤12) (hb:backB (bN (bitL xs)) xs.length=false) (a b:AV) (h:H) (wf:Wf h) (hs:Sl h a 1 xs.length (xs.map ii)) (ht:Sl h b 1 ys.length (ys.map ii)):(om Try.prog KK).call (.fn 30 [a,b]) h = .ok (.tup [.int .i64 0,.int .i64 5]) h:=by
  obtain ⟨⟨h1,h2⟩,h3,h4⟩:=err3_ok he
  obtain ⟨f1,f2⟩:=zPv hs
  obtain ⟨f3,f4⟩:=zPv ht
  have hl : ∀ h',lenE Try.prog 22 a h'=some (ii (xs.length:Int)):=fun h'=>hs.len yTx
  have c1 : ∀ (l:List AO) (w:Nat),w≤h.clock+l.length→(om Try.prog KK).call (.fn 41 [a,b]) (X h l w) = .ok (ii 0) (X h l w):=fun l w hw=>by rw [checkStart xs ys a b _ (wf.X hw) (hs.up wf l w) (ht.up wf l w),he]
  have hs':Sl h a 1 (bitL xs).length ((bitL xs).map bi):=by rw [zLz,← xBv h2];exact hs
  have c2 : ∀ (l:List AO) (w:Nat),w≤h.clock+l.length→(om Try.prog KK).call (.fn 42 [a]) (X h l w) = .ok (.agg [uu (bN (bitL xs) % 2 ^ 64),uu (bN (bitL xs) >>> 64),ii (xs.length:Int)]) (X h l w):=fun l w hw=>by
    have:=registerOf (bitL xs) (by rw [zLz];omega) a _ (wf.X hw) (hs'.up wf l w)
    rw [zLz] at this
    exact this
  have c3 : ∀ (l:List AO) (w:Nat),w≤h.clock+l.length→(om Try.prog KK).call (.fn 58 [.agg [uu (bN (bitL xs) % 2 ^ 64),uu (bN (bitL xs) >>> 64),ii (xs.length:Int)]]) (X h l w) = .ok (.bool false) (X h l w):=fun l w hw=>by
    have:=comesBack (bN (bitL xs)) xs.length (by omega) _ (wf.X hw)
    rw [hb] at this
    exact this
  refine ySx (zMy (fn:=Try.f30) Try.func30 rfl rfl rfl rfl rfl ?_)
  simp only [zKv]
  (repeat' (first
  | (with_reducible first|refine zJx ?_|refine zGw ?_|refine zFz ?_|refine zEv ?_|refine zFy ?_|refine zJw ?_|refine zGv ?_|refine zCz ?_|refine zDw ?_|refine zCy ?_|refine zCv ?_|refine zEx ?_|refine zDz ?_|refine zCx ?_|refine zBx ?_|refine zEz ?_|refine zEy ?_|refine zAw ?_|refine zBy ?_)
  | refine zDy ?_|refine zEw rfl ?_|refine zIv ?_|refine zJy ?_
  | ((first|refine zGx rfl rfl rfl rfl rfl fun K_ hK_=>?_|refine zGy rfl rfl rfl rfl rfl fun K_ hK_=>?_);simp only [zAz,zDx,zGz,↓reduceIte,reduceCtorEq,Nat.reduceEqDiff,Bool.not_true,Bool.not_false];refine hK_ _ ?_;clear hK_ K_)
  | refine zDv (by decide) ?_
  | ((try first|refine zKy rfl rfl rfl ?_|refine zIw rfl rfl ?_|refine zKx rfl rfl rfl ?_|refine zJz rfl rfl ?_);(refine zIx fun Q_ hQ_=>?_;simp (disch:=first|omega|(simp only [List.length_cons,List.length_nil,List.length_append];omega)) only [bb,bp,zKv,↓reduceIte,reduceCtorEq,Nat.reduceEqDiff,Nat.reduceLT,Nat.reduceLeDiff,Nat.reduceAdd,Nat.reduceMul,Nat.reduceSub,Nat.reduceBEq,Int.reduceToNat,cond_true,cond_false,eq_self,beq_self_eq_true,hl,f1,f2,f3,f4,zFx wf,zHx wf,zBv wf,zFw wf,zAy wf,zAx,tEvZ35,zIy,zIz,zHv,zHw,zAv wf];first|(refine zCw (Q:=Q_) (fun hp_=>?_) (fun hp_=>?_) <;> first|(exfalso;omega)|(refine hQ_ _ _ ?_;clear hQ_ Q_))|(refine zBw (Q:=Q_) (fun hp_=>?_) (fun hp_=>?_) <;> first|(exfalso;omega)|(refine hQ_ _ _ ?_;clear hQ_ Q_))|(refine hQ_ _ _ ?_;clear hQ_ Q_)|(refine zOv (c1 _ _ (by first|omega|(simp only [List.length_append,List.length_cons,List.length_nil];omega))) ?_;refine hQ_ _ _ ?_;clear hQ_ Q_)|(refine zOv (c2 _ _ (by first|omega|(simp only [List.length_append,List.length_cons,List.length_nil];omega))) ?_;refine hQ_ _ _ ?_;clear hQ_ Q_)|(refine zOv (c3 _ _ (by first|omega|(simp only [List.length_append,List.length_cons,List.length_nil];omega))) ?_;refine hQ_ _ _ ?_;clear hQ_ Q_)))
  | (refine zHz fun K_ hK_=>?_;simp (disch:=omega) only [zFv,zAz,zHy,↓reduceIte,reduceCtorEq,Nat.reduceEqDiff,Nat.reduceLT];refine hK_ _ ?_;clear hK_ K_)))
  all_goals (refine zKw _ _ rfl (ret2 (by decide) (by decide)) ?_;simp only [zAz,↓reduceIte,reduceCtorEq,Nat.reduceEqDiff];refine zLy rfl (by omega) ?_)
  all_goals exact ⟨rfl,rfl⟩
theorem perOK (xs ys:List Int) (he:err3 xs ys=0) (hlong:xs.length≤12) (hb:backB (bN (bitL xs)) xs.length=true) (m:Nat→Bool) (hm:IsRun (bN (bitL xs)) xs.length (sq (bitL ys)) m) (a b:AV) (h:H) (wf:Wf h) (hs:Sl h a 1 xs.length (xs.map ii)) (ht:Sl h b 1 ys.length (ys.map ii)) :
    ∃ p:Nat,FirstRep (fun i=>st xs.length m (xs.length+i)) p∧p≤2 ^ xs.length∧((∃ x,x<2 ^ xs.length ∧ ∀ j,j<p→(fun i=>st xs.length m (xs.length+i)) j≠x)→p<2 ^ xs.length)∧(om Try.prog KK).call (.fn 30 [a,b]) h = .ok (.tup [ii (p:Int),.int .i64 0]) h:=by
  obtain ⟨⟨h1,h2⟩,h3,h4⟩:=err3_ok he
  obtain ⟨f1,f2⟩:=zPv hs
  obtain ⟨f3,f4⟩:=zPv ht
  have hl : ∀ h',lenE Try.prog 22 a h'=some (ii (xs.length:Int)):=fun h'=>hs.len yTx
  have c1 : ∀ (l:List AO) (w:Nat),w≤h.clock+l.length→(om Try.prog KK).call (.fn 41 [a,b]) (X h l w) = .ok (ii 0) (X h l w):=fun l w hw=>by rw [checkStart xs ys a b _ (wf.X hw) (hs.up wf l w) (ht.up wf l w),he]
  have hs':Sl h a 1 (bitL xs).length ((bitL xs).map bi):=by rw [zLz,← xBv h2];exact hs
  have ht':Sl h b 1 (bitL ys).length ((bitL ys).map bi):=by rw [zLz,← xBv h3];exact ht
  have hTl:bN (bitL xs)<2 ^ 128:=by
    have:=bN_lt (bitL xs)
    rw [zLz] at this
    exact Nat.lt_of_lt_of_le this (Nat.pow_le_pow_right (by decide) (by omega))
  have c2 : ∀ (l:List AO) (w:Nat),w≤h.clock+l.length→(om Try.prog KK).call (.fn 42 [a]) (X h l w) = .ok (.agg [uu (bN (bitL xs) % 2 ^ 64),uu (bN (bitL xs) >>> 64),ii (xs.length:Int)]) (X h l w):=fun l w hw=>by
    have:=registerOf (bitL xs) (by rw [zLz];omega) a _ (wf.X hw) (hs'.up wf l w)
    rw [zLz] at this
    exact this
  have c3 : ∀ (l:List AO) (w:Nat),w≤h.clock+l.length→(om Try.prog KK).call (.fn 58 [.agg [uu (bN (bitL xs) % 2 ^ 64),uu (bN (bitL xs) >>> 64),ii (xs.length:Int)]]) (X h l w) = .ok (.bool true) (X h l w):=fun l w hw=>by
    have:=comesBack (bN (bitL xs)) xs.length (by omega) _ (wf.X hw)
    rw [hb] at this
    exact this
  obtain ⟨p,r1,r2,r3,_⟩:=period (bN (bitL xs)) xs.length hlong hTl (bitL ys) (by rw [zLz];exact h4) m hm b _ (wf.X (l:=[]) (w:=h.clock) (by simp)) (ht'.up wf _ _)
  refine ⟨p,r1,r2,r3,?_⟩
  have c4 : ∀ (l:List AO) (w:Nat),w≤h.clock+l.length→(om Try.prog KK).call (.fn 59 [.agg [uu (bN (bitL xs) % 2 ^ 64),uu (bN (bitL xs) >>> 64),ii (xs.length:Int)],b]) (X h l w) = .ok (ii (p:Int)) (X h l w):=fun l w hw=>by
    obtain ⟨q,s1,_,_,e⟩:=period (bN (bitL xs)) xs.length hlong hTl (bitL ys) (by rw [zLz];exact h4) m hm b _ (wf.X hw) (ht'.up wf _ _)
    rw [r1.unique s1]
    exact e
  refine ySx (zMy (fn:=Try.f30) Try.func30 rfl rfl rfl rfl rfl ?_)
  simp only [zKv]
  (repeat' (first
  | (with_reducible first|refine zJx ?_|refine zGw ?_|refine zFz ?_|refine zEv ?_|refine zFy ?_|refine zJw ?_|refine zGv ?_|refine zCz ?_|refine zDw ?_|refine zCy ?_|refine zCv ?_|refine zEx ?_|refine zDz ?_|refine zCx ?_|refine zBx ?_|refine zEz ?_|refine zEy ?_|refine zAw ?_|refine zBy ?_)
  | refine zDy ?_|refine zEw rfl ?_|refine zIv ?_|refine zJy ?_
  | ((first|refine zGx rfl rfl rfl rfl rfl fun K_ hK_=>?_|refine zGy rfl rfl rfl rfl rfl fun K_ hK_=>?_);simp only [zAz,zDx,zGz,↓reduceIte,reduceCtorEq,Nat.reduceEqDiff,Bool.not_true,Bool.not_false];refine hK_ _ ?_;clear hK_ K_)
  | refine zDv (by decide) ?_
  | ((try first|refine zKy rfl rfl rfl ?_|refine zIw rfl rfl ?_|refine zKx rfl rfl rfl ?_|refine zJz rfl rfl ?_);(refine zIx fun Q_ hQ_=>?_;simp (disch:=first|omega|(simp only [List.length_cons,List.length_nil,List.length_append];omega)) only [bb,bp,zKv,↓reduceIte,reduceCtorEq,Nat.reduceEqDiff,Nat.reduceLT,Nat.reduceLeDiff,Nat.reduceAdd,Nat.reduceMul,Nat.reduceSub,Nat.reduceBEq,Int.reduceToNat,cond_true,cond_false,eq_self,beq_self_eq_true,hl,f1,f2,f3,f4,zFx wf,zHx wf,zBv wf,zFw wf,zAy wf,zAx,tEvZ35,zIy,zIz,zHv,zHw,zAv wf];first|(refine zCw (Q:=Q_) (fun hp_=>?_) (fun hp_=>?_) <;> first|(exfalso;omega)|(refine hQ_ _ _ ?_;clear hQ_ Q_))|(refine zBw (Q:=Q_) (fun hp_=>?_) (fun hp_=>?_) <;> first|(exfalso;omega)|(refine hQ_ _ _ ?_;clear hQ_ Q_))|(refine hQ_ _ _ ?_;clear hQ_ Q_)|(refine zOv (c1 _ _ (by first|omega|(simp only [List.length_append,List.length_cons,List.length_nil];omega))) ?_;refine hQ_ _ _ ?_;clear hQ_ Q_)|(refine zOv (c2 _ _ (by first|omega|(simp only [List.length_append,List.length_cons,List.length_nil];omega))) ?_;refine hQ_ _ _ ?_;clear hQ_ Q_)|(refine zOv (c3 _ _ (by first|omega|(simp only [List.length_append,List.length_cons,List.length_nil];omega))) ?_;refine hQ_ _ _ ?_;clear hQ_ Q_)|(refine zOv (c4 _ _ (by first|omega|(simp only [List.length_append,List.length_cons,List.length_nil];omega))) ?_;refine hQ_ _ _ ?_;clear hQ_ Q_)))
  | (refine zHz fun K_ hK_=>?_;simp (disch:=omega) only [zFv,zAz,zHy,↓reduceIte,reduceCtorEq,Nat.reduceEqDiff,Nat.reduceLT];refine hK_ _ ?_;clear hK_ K_)))
  all_goals (refine zKw _ _ rfl (ret2 (by decide) (by decide)) ?_;simp only [zAz,↓reduceIte,reduceCtorEq,Nat.reduceEqDiff];refine zLy rfl (by omega) ?_)
  all_goals exact ⟨rfl,rfl⟩
end Go.Proofs.Ytmincoafjnnkpaa
end

section
namespace Go.Proofs.Ytmincoafjnnkpaa
open Go.Ev
set_option maxRecDepth 100000
set_option linter.unusedSimpArgs false
set_option linter.unusedVariables false
set_option maxHeartbeats 2000000
theorem tEvZ36 :type_of% (And.intro (And.intro (And.intro (And.intro (And.intro (And.intro (And.intro (@yQx) (@yQy)) (And.intro (@yQz) (@yPv))) (And.intro (And.intro (@yPw) (@yPx)) (And.intro (@ia_2) (And.intro (@ia_3) (@ia_4))))) (And.intro (And.intro (And.intro (@ia_5) (@yPy)) (And.intro (@yPz) (@yOv))) (And.intro (And.intro (@yOw) (@yOx)) (And.intro (@yOy) (And.intro (@zRv) (@yOz)))))) (And.intro (And.intro (And.intro (And.intro (@yNv) (@yNw)) (And.intro (@yNx) (@yNy))) (And.intro (And.intro (@yNz) (@yMv)) (And.intro (@yMw) (And.intro (@yMx) (@sz_2))))) (And.intro (And.intro (And.intro (@sz_3) (@sz_4)) (And.intro (@sz_5) (And.intro (@zQv) (@zYw)))) (And.intro (And.intro (@zYx) (@zYy)) (And.intro (@zYz) (And.intro (@zXv) (@zRx))))))) (And.intro (And.intro (And.intro (And.intro (And.intro (@zXw) (@zXx)) (And.intro (@zXy) (@zQx))) (And.intro (And.intro (@zXz) (@zWv)) (And.intro (@zWw) (And.intro (@zWx) (@zWy))))) (And.intro (And.intro (And.intro (@ze_2) (@ze_3)) (And.intro (@ze_4) (And.intro (@ze_5) (@zWz)))) (And.intro (And.intro (@zVv) (@zVw)) (And.intro (@zVx) (And.intro (@zVy) (@zVz)))))) (And.intro (And.intro (And.intro (And.intro (@zUv) (@zUw)) (And.intro (@zUx) (@zUy))) (And.intro (And.intro (@zUz) (@zTv)) (And.intro (@zTw) (And.intro (@zTx) (@zTy))))) (And.intro (And.intro (And.intro (@zOy) (@zOz)) (And.intro (@zNv) (And.intro (@zNw) (@zNx)))) (And.intro (And.intro (@zNy) (@zNz)) (And.intro (@zMv) (And.intro (@zMw) (@yMy)))))))) (And.intro (And.intro (And.intro (And.intro (And.intro (And.intro (@yMz) (@yLv)) (And.intro (@yLw) (@yLx))) (And.intro (And.intro (@yLy) (@yLz)) (And.intro (@yKv) (And.intro (@yKw) (@yKx))))) (And.intro (And.intro (And.intro (@yKy) (@yKz)) (And.intro (@yJv) (@yJw))) (And.intro (And.intro (@yJx) (@yJy)) (And.intro (@yJz) (And.intro (@yIv) (@yIw)))))) (And.intro (And.intro (And.intro (And.intro (@yIx) (@yIy)) (And.intro (@yIz) (@yHv))) (And.intro (And.intro (@yHw) (@yHx)) (And.intro (@yHy) (And.intro (@yHz) (@yGv))))) (And.intro (And.intro (And.intro (@yGw) (@yGx)) (And.intro (@yGy) (And.intro (@yGz) (@yFv)))) (And.intro (And.intro (@yFw) (@yFx)) (And.intro (@yFy) (And.intro (@yFz) (@yEv))))))) (And.intro (And.intro (And.intro (And.intro (And.intro (@yEw) (@yEx)) (And.intro (@yEy) (@yEz))) (And.intro (And.intro (@yDv) (@yDw)) (And.intro (@yDx) (And.intro (@yDy) (@yDz))))) (And.intro (And.intro (And.intro (@yCv) (@yCw)) (And.intro (@yCx) (And.intro (@yCy) (@yCz)))) (And.intro (And.intro (@zSz) (@yBv)) (And.intro (@yBw) (And.intro (@yBx) (@yBy)))))) (And.intro (And.intro (And.intro (And.intro (@yBz) (@yAv)) (And.intro (@yAw) (@yAx))) (And.intro (And.intro (@yAy) (@yAz)) (And.intro (@zZv) (And.intro (@zZw) (@zZx))))) (And.intro (And.intro (And.intro (@zZy) (@zZz)) (And.intro (@zQy) (And.intro (@zSv) (@zSw)))) (And.intro (And.intro (@zQw) (@zSx)) (And.intro (@zRy) (And.intro (@zSy) (@zRw))))))))):=And.intro (And.intro (And.intro (And.intro (And.intro (And.intro (And.intro (@yQx) (@yQy)) (And.intro (@yQz) (@yPv))) (And.intro (And.intro (@yPw) (@yPx)) (And.intro (@ia_2) (And.intro (@ia_3) (@ia_4))))) (And.intro (And.intro (And.intro (@ia_5) (@yPy)) (And.intro (@yPz) (@yOv))) (And.intro (And.intro (@yOw) (@yOx)) (And.intro (@yOy) (And.intro (@zRv) (@yOz)))))) (And.intro (And.intro (And.intro (And.intro (@yNv) (@yNw)) (And.intro (@yNx) (@yNy))) (And.intro (And.intro (@yNz) (@yMv)) (And.intro (@yMw) (And.intro (@yMx) (@sz_2))))) (And.intro (And.intro (And.intro (@sz_3) (@sz_4)) (And.intro (@sz_5) (And.intro (@zQv) (@zYw)))) (And.intro (And.intro (@zYx) (@zYy)) (And.intro (@zYz) (And.intro (@zXv) (@zRx))))))) (And.intro (And.intro (And.intro (And.intro (And.intro (@zXw) (@zXx)) (And.intro (@zXy) (@zQx))) (And.intro (And.intro (@zXz) (@zWv)) (And.intro (@zWw) (And.intro (@zWx) (@zWy))))) (And.intro (And.intro (And.intro (@ze_2) (@ze_3)) (And.intro (@ze_4) (And.intro (@ze_5) (@zWz)))) (And.intro (And.intro (@zVv) (@zVw)) (And.intro (@zVx) (And.intro (@zVy) (@zVz)))))) (And.intro (And.intro (And.intro (And.intro (@zUv) (@zUw)) (And.intro (@zUx) (@zUy))) (And.intro (And.intro (@zUz) (@zTv)) (And.intro (@zTw) (And.intro (@zTx) (@zTy))))) (And.intro (And.intro (And.intro (@zOy) (@zOz)) (And.intro (@zNv) (And.intro (@zNw) (@zNx)))) (And.intro (And.intro (@zNy) (@zNz)) (And.intro (@zMv) (And.intro (@zMw) (@yMy)))))))) (And.intro (And.intro (And.intro (And.intro (And.intro (And.intro (@yMz) (@yLv)) (And.intro (@yLw) (@yLx))) (And.intro (And.intro (@yLy) (@yLz)) (And.intro (@yKv) (And.intro (@yKw) (@yKx))))) (And.intro (And.intro (And.intro (@yKy) (@yKz)) (And.intro (@yJv) (@yJw))) (And.intro (And.intro (@yJx) (@yJy)) (And.intro (@yJz) (And.intro (@yIv) (@yIw)))))) (And.intro (And.intro (And.intro (And.intro (@yIx) (@yIy)) (And.intro (@yIz) (@yHv))) (And.intro (And.intro (@yHw) (@yHx)) (And.intro (@yHy) (And.intro (@yHz) (@yGv))))) (And.intro (And.intro (And.intro (@yGw) (@yGx)) (And.intro (@yGy) (And.intro (@yGz) (@yFv)))) (And.intro (And.intro (@yFw) (@yFx)) (And.intro (@yFy) (And.intro (@yFz) (@yEv))))))) (And.intro (And.intro (And.intro (And.intro (And.intro (@yEw) (@yEx)) (And.intro (@yEy) (@yEz))) (And.intro (And.intro (@yDv) (@yDw)) (And.intro (@yDx) (And.intro (@yDy) (@yDz))))) (And.intro (And.intro (And.intro (@yCv) (@yCw)) (And.intro (@yCx) (And.intro (@yCy) (@yCz)))) (And.intro (And.intro (@zSz) (@yBv)) (And.intro (@yBw) (And.intro (@yBx) (@yBy)))))) (And.intro (And.intro (And.intro (And.intro (@yBz) (@yAv)) (And.intro (@yAw) (@yAx))) (And.intro (And.intro (@yAy) (@yAz)) (And.intro (@zZv) (And.intro (@zZw) (@zZx))))) (And.intro (And.intro (And.intro (@zZy) (@zZz)) (And.intro (@zQy) (And.intro (@zSv) (@zSw)))) (And.intro (And.intro (@zQw) (@zSx)) (And.intro (@zRy) (And.intro (@zSy) (@zRw))))))))
theorem shl_small {x y:Operand} : ∀ n:Nat,n≤10→binE Try.prog .shl 3 x y (.int .i64 1) (.int .i64 (n:Int))=some (ii ((2 ^ n:Nat):Int))
  | 0,_=>by first|rfl|kernel_rfl
  | 1,_=>by first|rfl|kernel_rfl
  | 2,_=>by first|rfl|kernel_rfl
  | 3,_=>by first|rfl|kernel_rfl
  | 4,_=>by first|rfl|kernel_rfl
  | 5,_=>by first|rfl|kernel_rfl
  | 6,_=>by first|rfl|kernel_rfl
  | 7,_=>by first|rfl|kernel_rfl
  | 8,_=>by first|rfl|kernel_rfl
  | 9,_=>by first|rfl|kernel_rfl
  | 10,_=>by first|rfl|kernel_rfl
  | n+11,h=>absurd h (by omega)
def numB (bs:List Bool):List Int:=bs.map fun b=>((b.toNat:Nat):Int)
theorem numB_ii (bs:List Bool):(numB bs).map ii=bs.map bi:=map_bi bs
theorem numB_bitL (bs:List Bool):bitL (numB bs)=bs:=by
  unfold bitL numB
  rw [List.map_map]
  have:((fun x:Int=>x == 1) ∘ fun b:Bool=>((b.toNat:Nat):Int))=id:=by
    funext b;cases b <;> rfl
  rw [this,List.map_id]
theorem numB_good (bs:List Bool):good (numB bs)=true:=by
  unfold good numB
  rw [List.all_map]
  refine List.all_eq_true.2 fun b _=>?_
  cases b <;> rfl
theorem err3_of {xs:List Int} (hx:errB xs=0) (bs:List Bool) (hb:bs.length=xs.length):err3 xs (numB bs)=0:=by
  have h1:=xUw.1 hx
  have hl:(numB bs).length=xs.length:=by unfold numB;rw [List.length_map,hb]
  have h2:errB (numB bs)=0:=xUw.2 ⟨by rw [hl];exact h1.1,numB_good bs⟩
  unfold err3 err2
  rw [if_pos hx,if_pos h2,if_pos hl]
theorem err3_is {xs ys:List Int} (hx:errB xs=0) (hy:errB ys=0) (hl:ys.length=xs.length):err3 xs ys=0:=by
  unfold err3 err2
  rw [if_pos hx,if_pos hy,if_pos hl]
theorem lawPeriodOut (xs ys:List Int) (k:Int) (a b:AV) (h:H) (wf:Wf h) (hs:Sl h a 1 xs.length (xs.map ii)) (ht:Sl h b 1 ys.length (ys.map ii)) (hno : ¬ (errB xs=0∧errB ys=0∧ys.length=xs.length∧xs.length≤10)) :
    (om Try.prog KK).call (.fn 13 [a,b,.int .u8 k]) h = .ok (.bool true) h:=by
  have hl : ∀ h',lenE Try.prog 22 a h'=some (ii (xs.length:Int)):=fun h'=>hs.len yTx
  have hl2 : ∀ h',lenE Try.prog 22 b h'=some (ii (ys.length:Int)):=fun h'=>ht.len yTx
  obtain ⟨f1,f2⟩:=zPv hs
  obtain ⟨f3,f4⟩:=zPv ht
  have cf1 : ∀ (l:List AO) (w:Nat),w≤h.clock+l.length→(om Try.prog KK).call (.fn 37 [a]) (X h l w) = .ok (.bool (decide (errB xs=0))) (X h l w):=fun l w hw=>fine xs a _ (wf.X hw) (hs.up wf l w)
  have cf2 : ∀ (l:List AO) (w:Nat),w≤h.clock+l.length→(om Try.prog KK).call (.fn 37 [b]) (X h l w) = .ok (.bool (decide (errB ys=0))) (X h l w):=fun l w hw=>fine ys b _ (wf.X hw) (ht.up wf l w)
  refine ySx (zMy (fn:=Try.f13) Try.func13 rfl rfl rfl rfl rfl ?_)
  simp only [zKv]
  by_cases hx:errB xs=0
  · rw [decide_eq_true hx] at cf1
    by_cases hy:errB ys=0
    · rw [decide_eq_true hy] at cf2
      by_cases hll:ys.length=xs.length
      · have hlong:10<xs.length:=by
          refine Classical.byContradiction fun hh=>hno ⟨hx,hy,hll,by omega⟩
        have e1:(xs.length:Int)=(ys.length:Int):=by omega
        have e2:(10:Int)<(ys.length:Int):=by omega
        (repeat' (first
  | (with_reducible first|refine zJx ?_|refine zGw ?_|refine zFz ?_|refine zEv ?_|refine zFy ?_|refine zJw ?_|refine zGv ?_|refine zCz ?_|refine zDw ?_|refine zCy ?_|refine zCv ?_|refine zEx ?_|refine zDz ?_|refine zCx ?_|refine zBx ?_|refine zEz ?_|refine zEy ?_|refine zAw ?_|refine zBy ?_)
  | refine zDy ?_|refine zEw rfl ?_|refine zIv ?_|refine zJy ?_
  | ((first|refine zGx rfl rfl rfl rfl rfl fun K_ hK_=>?_|refine zGy rfl rfl rfl rfl rfl fun K_ hK_=>?_);simp only [zAz,zDx,zGz,↓reduceIte,reduceCtorEq,Nat.reduceEqDiff,Bool.not_true,Bool.not_false];refine hK_ _ ?_;clear hK_ K_)
  | refine zDv (by decide) ?_
  | ((try first|refine zKy rfl rfl rfl ?_|refine zIw rfl rfl ?_|refine zKx rfl rfl rfl ?_|refine zJz rfl rfl ?_);(refine zIx fun Q_ hQ_=>?_;simp (disch:=first|omega|(simp only [List.length_cons,List.length_nil,List.length_append];omega)) only [bb,bp,zKv,↓reduceIte,reduceCtorEq,Nat.reduceEqDiff,Nat.reduceLT,Nat.reduceLeDiff,Nat.reduceAdd,Nat.reduceMul,Nat.reduceSub,Nat.reduceBEq,Int.reduceToNat,cond_true,cond_false,eq_self,beq_self_eq_true,hl,hl2,e1,e2,f1,f2,f3,f4,zFx wf,zHx wf,zBv wf,zFw wf,zAy wf,zAx,tEvZ36,zIy,zIz,zHv,zHw,zAv wf];first|(refine zCw (Q:=Q_) (fun hp_=>?_) (fun hp_=>?_) <;> first|(exfalso;omega)|(refine hQ_ _ _ ?_;clear hQ_ Q_))|(refine zBw (Q:=Q_) (fun hp_=>?_) (fun hp_=>?_) <;> first|(exfalso;omega)|(refine hQ_ _ _ ?_;clear hQ_ Q_))|(refine hQ_ _ _ ?_;clear hQ_ Q_)|(refine zOv (cf1 _ _ (by first|omega|(simp only [List.length_append,List.length_cons,List.length_nil];omega))) ?_;refine hQ_ _ _ ?_;clear hQ_ Q_)|(refine zOv (cf2 _ _ (by first|omega|(simp only [List.length_append,List.length_cons,List.length_nil];omega))) ?_;refine hQ_ _ _ ?_;clear hQ_ Q_)|(refine zOv (works _) ?_;refine hQ_ _ _ ?_;clear hQ_ Q_)))
  | (refine zHz fun K_ hK_=>?_;simp (disch:=omega) only [zFv,zAz,zHy,↓reduceIte,reduceCtorEq,Nat.reduceEqDiff,Nat.reduceLT];refine hK_ _ ?_;clear hK_ K_)))
        all_goals (refine zKw _ _ rfl (ret1 (by decide)) ?_;simp only [zAz,↓reduceIte,reduceCtorEq,Nat.reduceEqDiff];refine zLy rfl (by omega) ?_)
        all_goals exact ⟨rfl,rfl⟩
      · have e1 : ¬ (xs.length:Int)=(ys.length:Int):=by omega
        (repeat' (first
  | (with_reducible first|refine zJx ?_|refine zGw ?_|refine zFz ?_|refine zEv ?_|refine zFy ?_|refine zJw ?_|refine zGv ?_|refine zCz ?_|refine zDw ?_|refine zCy ?_|refine zCv ?_|refine zEx ?_|refine zDz ?_|refine zCx ?_|refine zBx ?_|refine zEz ?_|refine zEy ?_|refine zAw ?_|refine zBy ?_)
  | refine zDy ?_|refine zEw rfl ?_|refine zIv ?_|refine zJy ?_
  | ((first|refine zGx rfl rfl rfl rfl rfl fun K_ hK_=>?_|refine zGy rfl rfl rfl rfl rfl fun K_ hK_=>?_);simp only [zAz,zDx,zGz,↓reduceIte,reduceCtorEq,Nat.reduceEqDiff,Bool.not_true,Bool.not_false];refine hK_ _ ?_;clear hK_ K_)
  | refine zDv (by decide) ?_
  | ((try first|refine zKy rfl rfl rfl ?_|refine zIw rfl rfl ?_|refine zKx rfl rfl rfl ?_|refine zJz rfl rfl ?_);(refine zIx fun Q_ hQ_=>?_;simp (disch:=first|omega|(simp only [List.length_cons,List.length_nil,List.length_append];omega)) only [bb,bp,zKv,↓reduceIte,reduceCtorEq,Nat.reduceEqDiff,Nat.reduceLT,Nat.reduceLeDiff,Nat.reduceAdd,Nat.reduceMul,Nat.reduceSub,Nat.reduceBEq,Int.reduceToNat,cond_true,cond_false,eq_self,beq_self_eq_true,hl,hl2,e1,f1,f2,f3,f4,zFx wf,zHx wf,zBv wf,zFw wf,zAy wf,zAx,tEvZ36,zIy,zIz,zHv,zHw,zAv wf];first|(refine zCw (Q:=Q_) (fun hp_=>?_) (fun hp_=>?_) <;> first|(exfalso;omega)|(refine hQ_ _ _ ?_;clear hQ_ Q_))|(refine zBw (Q:=Q_) (fun hp_=>?_) (fun hp_=>?_) <;> first|(exfalso;omega)|(refine hQ_ _ _ ?_;clear hQ_ Q_))|(refine hQ_ _ _ ?_;clear hQ_ Q_)|(refine zOv (cf1 _ _ (by first|omega|(simp only [List.length_append,List.length_cons,List.length_nil];omega))) ?_;refine hQ_ _ _ ?_;clear hQ_ Q_)|(refine zOv (cf2 _ _ (by first|omega|(simp only [List.length_append,List.length_cons,List.length_nil];omega))) ?_;refine hQ_ _ _ ?_;clear hQ_ Q_)|(refine zOv (works _) ?_;refine hQ_ _ _ ?_;clear hQ_ Q_)))
  | (refine zHz fun K_ hK_=>?_;simp (disch:=omega) only [zFv,zAz,zHy,↓reduceIte,reduceCtorEq,Nat.reduceEqDiff,Nat.reduceLT];refine hK_ _ ?_;clear hK_ K_)))
        all_goals (refine zKw _ _ rfl (ret1 (by decide)) ?_;simp only [zAz,↓reduceIte,reduceCtorEq,Nat.reduceEqDiff];refine zLy rfl (by omega) ?_)
        all_goals exact ⟨rfl,rfl⟩
    · rw [decide_eq_false hy] at cf2
      (repeat' (first
  | (with_reducible first|refine zJx ?_|refine zGw ?_|refine zFz ?_|refine zEv ?_|refine zFy ?_|refine zJw ?_|refine zGv ?_|refine zCz ?_|refine zDw ?_|refine zCy ?_|refine zCv ?_|refine zEx ?_|refine zDz ?_|refine zCx ?_|refine zBx ?_|refine zEz ?_|refine zEy ?_|refine zAw ?_|refine zBy ?_)
  | refine zDy ?_|refine zEw rfl ?_|refine zIv ?_|refine zJy ?_
  | ((first|refine zGx rfl rfl rfl rfl rfl fun K_ hK_=>?_|refine zGy rfl rfl rfl rfl rfl fun K_ hK_=>?_);simp only [zAz,zDx,zGz,↓reduceIte,reduceCtorEq,Nat.reduceEqDiff,Bool.not_true,Bool.not_false];refine hK_ _ ?_;clear hK_ K_)
  | refine zDv (by decide) ?_
  | ((try first|refine zKy rfl rfl rfl ?_|refine zIw rfl rfl ?_|refine zKx rfl rfl rfl ?_|refine zJz rfl rfl ?_);(refine zIx fun Q_ hQ_=>?_;simp (disch:=first|omega|(simp only [List.length_cons,List.length_nil,List.length_append];omega)) only [bb,bp,zKv,↓reduceIte,reduceCtorEq,Nat.reduceEqDiff,Nat.reduceLT,Nat.reduceLeDiff,Nat.reduceAdd,Nat.reduceMul,Nat.reduceSub,Nat.reduceBEq,Int.reduceToNat,cond_true,cond_false,eq_self,beq_self_eq_true,hl,hl2,f1,f2,f3,f4,zFx wf,zHx wf,zBv wf,zFw wf,zAy wf,zAx,tEvZ36,zIy,zIz,zHv,zHw,zAv wf];first|(refine zCw (Q:=Q_) (fun hp_=>?_) (fun hp_=>?_) <;> first|(exfalso;omega)|(refine hQ_ _ _ ?_;clear hQ_ Q_))|(refine zBw (Q:=Q_) (fun hp_=>?_) (fun hp_=>?_) <;> first|(exfalso;omega)|(refine hQ_ _ _ ?_;clear hQ_ Q_))|(refine hQ_ _ _ ?_;clear hQ_ Q_)|(refine zOv (cf1 _ _ (by first|omega|(simp only [List.length_append,List.length_cons,List.length_nil];omega))) ?_;refine hQ_ _ _ ?_;clear hQ_ Q_)|(refine zOv (cf2 _ _ (by first|omega|(simp only [List.length_append,List.length_cons,List.length_nil];omega))) ?_;refine hQ_ _ _ ?_;clear hQ_ Q_)|(refine zOv (works _) ?_;refine hQ_ _ _ ?_;clear hQ_ Q_)))
  | (refine zHz fun K_ hK_=>?_;simp (disch:=omega) only [zFv,zAz,zHy,↓reduceIte,reduceCtorEq,Nat.reduceEqDiff,Nat.reduceLT];refine hK_ _ ?_;clear hK_ K_)))
      all_goals (refine zKw _ _ rfl (ret1 (by decide)) ?_;simp only [zAz,↓reduceIte,reduceCtorEq,Nat.reduceEqDiff];refine zLy rfl (by omega) ?_)
      all_goals exact ⟨rfl,rfl⟩
  · rw [decide_eq_false hx] at cf1
    (repeat' (first
  | (with_reducible first|refine zJx ?_|refine zGw ?_|refine zFz ?_|refine zEv ?_|refine zFy ?_|refine zJw ?_|refine zGv ?_|refine zCz ?_|refine zDw ?_|refine zCy ?_|refine zCv ?_|refine zEx ?_|refine zDz ?_|refine zCx ?_|refine zBx ?_|refine zEz ?_|refine zEy ?_|refine zAw ?_|refine zBy ?_)
  | refine zDy ?_|refine zEw rfl ?_|refine zIv ?_|refine zJy ?_
  | ((first|refine zGx rfl rfl rfl rfl rfl fun K_ hK_=>?_|refine zGy rfl rfl rfl rfl rfl fun K_ hK_=>?_);simp only [zAz,zDx,zGz,↓reduceIte,reduceCtorEq,Nat.reduceEqDiff,Bool.not_true,Bool.not_false];refine hK_ _ ?_;clear hK_ K_)
  | refine zDv (by decide) ?_
  | ((try first|refine zKy rfl rfl rfl ?_|refine zIw rfl rfl ?_|refine zKx rfl rfl rfl ?_|refine zJz rfl rfl ?_);(refine zIx fun Q_ hQ_=>?_;simp (disch:=first|omega|(simp only [List.length_cons,List.length_nil,List.length_append];omega)) only [bb,bp,zKv,↓reduceIte,reduceCtorEq,Nat.reduceEqDiff,Nat.reduceLT,Nat.reduceLeDiff,Nat.reduceAdd,Nat.reduceMul,Nat.reduceSub,Nat.reduceBEq,Int.reduceToNat,cond_true,cond_false,eq_self,beq_self_eq_true,hl,hl2,f1,f2,f3,f4,zFx wf,zHx wf,zBv wf,zFw wf,zAy wf,zAx,tEvZ36,zIy,zIz,zHv,zHw,zAv wf];first|(refine zCw (Q:=Q_) (fun hp_=>?_) (fun hp_=>?_) <;> first|(exfalso;omega)|(refine hQ_ _ _ ?_;clear hQ_ Q_))|(refine zBw (Q:=Q_) (fun hp_=>?_) (fun hp_=>?_) <;> first|(exfalso;omega)|(refine hQ_ _ _ ?_;clear hQ_ Q_))|(refine hQ_ _ _ ?_;clear hQ_ Q_)|(refine zOv (cf1 _ _ (by first|omega|(simp only [List.length_append,List.length_cons,List.length_nil];omega))) ?_;refine hQ_ _ _ ?_;clear hQ_ Q_)|(refine zOv (works _) ?_;refine hQ_ _ _ ?_;clear hQ_ Q_)))
  | (refine zHz fun K_ hK_=>?_;simp (disch:=omega) only [zFv,zAz,zHy,↓reduceIte,reduceCtorEq,Nat.reduceEqDiff,Nat.reduceLT];refine hK_ _ ?_;clear hK_ K_)))
    all_goals (refine zKw _ _ rfl (ret1 (by decide)) ?_;simp only [zAz,↓reduceIte,reduceCtorEq,Nat.reduceEqDiff];refine zLy rfl (by omega) ?_)
    all_goals exact ⟨rfl,rfl⟩
end Go.Proofs.Ytmincoafjnnkpaa
end
