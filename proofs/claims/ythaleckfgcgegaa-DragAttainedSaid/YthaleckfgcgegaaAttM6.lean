import Derived.Test.YthaleckfgcgegaaAttM5
set_option linter.all false
section
namespace Go.Proofs.Ythaleckfgcgegaa
open Go.Ev
set_option maxRecDepth 100000
set_option linter.unusedSimpArgs false
set_option linter.unusedVariables false
set_option maxHeartbeats 2000000
theorem tEvD16 :type_of% (And.intro (And.intro (And.intro (And.intro (And.intro (And.intro (And.intro (@yXx) (@yXy)) (And.intro (@yXz) (And.intro (@yWv) (@yWw)))) (And.intro (And.intro (@yWx) (And.intro (@yWy) (@yWz))) (And.intro (@zWz) (And.intro (@ia_2) (@sz_2))))) (And.intro (And.intro (And.intro (@ia_3) (@sz_3)) (And.intro (@ia_4) (And.intro (@sz_4) (@yVv)))) (And.intro (And.intro (@yFz) (And.intro (@yVw) (@yEv))) (And.intro (@yVx) (And.intro (@yEw) (@yVy)))))) (And.intro (And.intro (And.intro (And.intro (@yEx) (@yVz)) (And.intro (@yEy) (And.intro (@yUv) (@yEz)))) (And.intro (And.intro (@yUw) (And.intro (@yDv) (@yUx))) (And.intro (@yDw) (And.intro (@yUy) (@yDx))))) (And.intro (And.intro (And.intro (@yUz) (@yDy)) (And.intro (@yTv) (And.intro (@zYy) (@yTw)))) (And.intro (And.intro (@yDz) (And.intro (@yTx) (@yCv))) (And.intro (@yTy) (And.intro (@yCw) (@yTz))))))) (And.intro (And.intro (And.intro (And.intro (And.intro (@yCx) (@ySv)) (And.intro (@yCy) (And.intro (@ySw) (@yCz)))) (And.intro (And.intro (@ySx) (And.intro (@yBv) (@ySy))) (And.intro (@yBw) (And.intro (@ySz) (@yBx))))) (And.intro (And.intro (And.intro (@yRv) (@yBy)) (And.intro (@zVv) (And.intro (@zUx) (@zVw)))) (And.intro (And.intro (@zUy) (And.intro (@zVx) (@zUz))) (And.intro (@zVy) (And.intro (@zTv) (@zVz)))))) (And.intro (And.intro (And.intro (And.intro (@zTw) (@zUv)) (And.intro (@zTx) (And.intro (@zUw) (@zTy)))) (And.intro (And.intro (@ze_2) (And.intro (@ze_3) (@ze_4))) (And.intro (@yBz) (And.intro (@yAv) (@yAw))))) (And.intro (And.intro (And.intro (@yAx) (And.intro (@yAy) (@yAz))) (And.intro (@zZv) (And.intro (@zZw) (@zZx)))) (And.intro (And.intro (@zTz) (And.intro (@zSz) (@zRv))) (And.intro (@zRw) (And.intro (@zRx) (@zRy)))))))) (And.intro (And.intro (And.intro (And.intro (And.intro (And.intro (@zRz) (@zQv)) (And.intro (@zQw) (And.intro (@zQx) (@zQy)))) (And.intro (And.intro (@zQz) (And.intro (@zPv) (@zPw))) (And.intro (@zPx) (And.intro (@zPy) (@zPz))))) (And.intro (And.intro (And.intro (@zOv) (@zOw)) (And.intro (@zOx) (And.intro (@zOy) (@zOz)))) (And.intro (And.intro (@zNv) (And.intro (@zNw) (@zNx))) (And.intro (@zNy) (And.intro (@zNz) (@zMv)))))) (And.intro (And.intro (And.intro (And.intro (@zMw) (@yRw)) (And.intro (@yRx) (And.intro (@yRy) (@yRz)))) (And.intro (And.intro (@yQv) (And.intro (@yQw) (@yQx))) (And.intro (@yQy) (And.intro (@yQz) (@yPv))))) (And.intro (And.intro (And.intro (@yPw) (And.intro (@yPx) (@yPy))) (And.intro (@yPz) (And.intro (@yOv) (@yOw)))) (And.intro (And.intro (@yOx) (And.intro (@yOy) (@yOz))) (And.intro (@yNv) (And.intro (@yNw) (@yNx))))))) (And.intro (And.intro (And.intro (And.intro (And.intro (@yNy) (@yNz)) (And.intro (@yMv) (And.intro (@yMw) (@yMx)))) (And.intro (And.intro (@yMy) (And.intro (@yMz) (@yLv))) (And.intro (@yLw) (And.intro (@yLx) (@yLy))))) (And.intro (And.intro (And.intro (@yLz) (@yKv)) (And.intro (@yKw) (And.intro (@yKx) (@yKy)))) (And.intro (And.intro (@yKz) (And.intro (@yJv) (@yJw))) (And.intro (@yJx) (And.intro (@yJy) (@yJz)))))) (And.intro (And.intro (And.intro (And.intro (@yIv) (@yIw)) (And.intro (@yIx) (And.intro (@yIy) (@yIz)))) (And.intro (And.intro (@yHv) (And.intro (@zZy) (@zZz))) (And.intro (@yHw) (And.intro (@yHx) (@yHy))))) (And.intro (And.intro (And.intro (@yHz) (And.intro (@yGv) (@yGw))) (And.intro (@yGx) (And.intro (@yGy) (@yGz)))) (And.intro (And.intro (@yFv) (And.intro (@yFw) (@zYv))) (And.intro (@yFx) (And.intro (@yFy) (@zYw))))))))):=And.intro (And.intro (And.intro (And.intro (And.intro (And.intro (And.intro (@yXx) (@yXy)) (And.intro (@yXz) (And.intro (@yWv) (@yWw)))) (And.intro (And.intro (@yWx) (And.intro (@yWy) (@yWz))) (And.intro (@zWz) (And.intro (@ia_2) (@sz_2))))) (And.intro (And.intro (And.intro (@ia_3) (@sz_3)) (And.intro (@ia_4) (And.intro (@sz_4) (@yVv)))) (And.intro (And.intro (@yFz) (And.intro (@yVw) (@yEv))) (And.intro (@yVx) (And.intro (@yEw) (@yVy)))))) (And.intro (And.intro (And.intro (And.intro (@yEx) (@yVz)) (And.intro (@yEy) (And.intro (@yUv) (@yEz)))) (And.intro (And.intro (@yUw) (And.intro (@yDv) (@yUx))) (And.intro (@yDw) (And.intro (@yUy) (@yDx))))) (And.intro (And.intro (And.intro (@yUz) (@yDy)) (And.intro (@yTv) (And.intro (@zYy) (@yTw)))) (And.intro (And.intro (@yDz) (And.intro (@yTx) (@yCv))) (And.intro (@yTy) (And.intro (@yCw) (@yTz))))))) (And.intro (And.intro (And.intro (And.intro (And.intro (@yCx) (@ySv)) (And.intro (@yCy) (And.intro (@ySw) (@yCz)))) (And.intro (And.intro (@ySx) (And.intro (@yBv) (@ySy))) (And.intro (@yBw) (And.intro (@ySz) (@yBx))))) (And.intro (And.intro (And.intro (@yRv) (@yBy)) (And.intro (@zVv) (And.intro (@zUx) (@zVw)))) (And.intro (And.intro (@zUy) (And.intro (@zVx) (@zUz))) (And.intro (@zVy) (And.intro (@zTv) (@zVz)))))) (And.intro (And.intro (And.intro (And.intro (@zTw) (@zUv)) (And.intro (@zTx) (And.intro (@zUw) (@zTy)))) (And.intro (And.intro (@ze_2) (And.intro (@ze_3) (@ze_4))) (And.intro (@yBz) (And.intro (@yAv) (@yAw))))) (And.intro (And.intro (And.intro (@yAx) (And.intro (@yAy) (@yAz))) (And.intro (@zZv) (And.intro (@zZw) (@zZx)))) (And.intro (And.intro (@zTz) (And.intro (@zSz) (@zRv))) (And.intro (@zRw) (And.intro (@zRx) (@zRy)))))))) (And.intro (And.intro (And.intro (And.intro (And.intro (And.intro (@zRz) (@zQv)) (And.intro (@zQw) (And.intro (@zQx) (@zQy)))) (And.intro (And.intro (@zQz) (And.intro (@zPv) (@zPw))) (And.intro (@zPx) (And.intro (@zPy) (@zPz))))) (And.intro (And.intro (And.intro (@zOv) (@zOw)) (And.intro (@zOx) (And.intro (@zOy) (@zOz)))) (And.intro (And.intro (@zNv) (And.intro (@zNw) (@zNx))) (And.intro (@zNy) (And.intro (@zNz) (@zMv)))))) (And.intro (And.intro (And.intro (And.intro (@zMw) (@yRw)) (And.intro (@yRx) (And.intro (@yRy) (@yRz)))) (And.intro (And.intro (@yQv) (And.intro (@yQw) (@yQx))) (And.intro (@yQy) (And.intro (@yQz) (@yPv))))) (And.intro (And.intro (And.intro (@yPw) (And.intro (@yPx) (@yPy))) (And.intro (@yPz) (And.intro (@yOv) (@yOw)))) (And.intro (And.intro (@yOx) (And.intro (@yOy) (@yOz))) (And.intro (@yNv) (And.intro (@yNw) (@yNx))))))) (And.intro (And.intro (And.intro (And.intro (And.intro (@yNy) (@yNz)) (And.intro (@yMv) (And.intro (@yMw) (@yMx)))) (And.intro (And.intro (@yMy) (And.intro (@yMz) (@yLv))) (And.intro (@yLw) (And.intro (@yLx) (@yLy))))) (And.intro (And.intro (And.intro (@yLz) (@yKv)) (And.intro (@yKw) (And.intro (@yKx) (@yKy)))) (And.intro (And.intro (@yKz) (And.intro (@yJv) (@yJw))) (And.intro (@yJx) (And.intro (@yJy) (@yJz)))))) (And.intro (And.intro (And.intro (And.intro (@yIv) (@yIw)) (And.intro (@yIx) (And.intro (@yIy) (@yIz)))) (And.intro (And.intro (@yHv) (And.intro (@zZy) (@zZz))) (And.intro (@yHw) (And.intro (@yHx) (@yHy))))) (And.intro (And.intro (And.intro (@yHz) (And.intro (@yGv) (@yGw))) (And.intro (@yGx) (And.intro (@yGy) (@yGz)))) (And.intro (And.intro (@yFv) (And.intro (@yFw) (@zYv))) (And.intro (@yFx) (And.intro (@yFy) (@zYw))))))))
theorem div_anti {a b c:Int} (ha:0≤a) (hb:0<b) (h:b≤c):a / c≤a / b:=by
  have h1:=Int.ediv_nonneg ha (show 0≤c by omega)
  have h2:=Int.ediv_mul_le a (show c≠0 by omega)
  have h3:=Int.mul_le_mul_of_nonneg_left h h1
  exact Int.le_ediv_of_mul_le hb (by omega)
theorem mo_anti {T:Te} (k:okT T) {t t':Int} (h0:0<t) (h:t≤t'):mo T t'≤mo T t:=div_anti k.prods.p2.1 h0 h
theorem sh_anti {T:Te} (k:okT T) {t t':Int} (h0:0<t) (h:t≤t'):sh T t'≤sh T t:=div_anti k.prods.p5.1 h0 h
def inAll (T:Te) (re:List Int):Prop:=(has re (mo T T.t1)∧has re (sh T T.s1))∧(has re (mo T T.t0)∧has re (sh T T.s0))
instance (T:Te) (re:List Int):Decidable (inAll T re):=by unfold inAll;infer_instance
def rk (T:Te) (ls:List Ln):Prop:=∀ l ∈ ls,inAll T l.re
instance (T:Te) (ls:List Ln):Decidable (rk T ls):=by unfold rk;infer_instance
theorem wAx {T:Te} (k:okT T) {re:List Int} (q:inAll T re) {x:Tr} (kx:isT T x):inR T re x:=by
  have kt:=k.t
  have ks:=k.s
  have h1:=mo_anti k (t:=T.t0) (t':=x.t) (by omega) kx.t.1
  have h2:=mo_anti k (t:=x.t) (t':=T.t1) (by have:=kx.t;omega) kx.t.2
  have h3:=sh_anti k (t:=T.s0) (t':=x.s) (by omega) kx.s.1
  have h4:=sh_anti k (t:=x.s) (t':=T.s1) (by have:=kx.s;omega) kx.s.2
  have q1:=q.1.1.1
  have q2:=q.1.2.1
  have q3:=q.2.1.2
  have q4:=q.2.2.2
  exact ⟨⟨by omega,by omega⟩,by omega,by omega⟩

noncomputable def lnO (l:Ln):AO:=.cells (zBv [l.a,l.b]) 24
theorem curvesOf (s:AV) (ls:List Ln) (hn:1≤ls.length∧ls.length≤4) (h:H) (x:LinesR h s ls) (L:List AO) (w:Nat) (hw:w≤h.clock+L.length) :
    (om Try.prog KK).call (.fn 70 [s]) (X h L w) = .ok (.sl (nx h L.length) 0 ls.length (some ls.length) 2) (X h (L++(.cells (zBv (ls.flatMap lnC)) 67 :: ls.map lnO)) w):=by
  have key : ∀ hb,LinesR hb s ls→(om Try.prog KK).call (.fn 70 [s]) hb = .ok (.sl (nx hb 0) 0 ls.length (some ls.length) 2) (X hb (.cells (zBv (ls.flatMap lnC)) 67 :: ls.map lnO) hb.w):=by
    clear hw x
    intro h x
    have wf:=x.wf
    have hl : ∀ h',lenE Try.prog 43 s h'=some (ii (ls.length:Int)):=fun h'=>x.sl.len un_43
    have hmk : ∀ l w,makeSliceE Try.prog 74 (.int .i64 (ls.length:Int)) (.int .i64 (ls.length:Int)) (X h l w) = .ok (.sl (nx h l.length) 0 ls.length (some ls.length) 2) (X h (l++[.cells (zBv (List.replicate (ls.length * 2) .nils)) 67]) w):=
      fun l w=>makeSlice_wide (s:=2) (z0:=.nils) wf un_74 zYy el_67 (by omega) (by decide) rfl
    refine zWv (zLx (fn:=Try.f70) Try.func70 rfl rfl rfl rfl rfl ?_)
    simp only [zLz]
    (repeat' (first
  | (with_reducible first|refine zJw ?_|refine zHz ?_|refine zFz ?_|refine zEv ?_|refine zFy ?_|refine zJv ?_|refine zHy ?_|refine zCz ?_|refine zDw ?_|refine zCy ?_|refine zCv ?_|refine zEx ?_|refine zDz ?_|refine zCx ?_|refine zBy ?_|refine zEz ?_|refine zEy ?_|refine zAv ?_|refine zBz ?_)
  | refine zDy ?_|refine zEw rfl ?_|refine zJy ?_|refine zJx ?_
  | ((first|refine zGv rfl rfl rfl rfl rfl fun K_ hK_=>?_|refine zGw rfl rfl rfl rfl rfl fun K_ hK_=>?_);simp only [zAz,zDx,zGx,↓reduceIte,reduceCtorEq,Nat.reduceEqDiff,Bool.not_true,Bool.not_false];refine hK_ _ ?_;clear hK_ K_)
  | refine zDv (by decide) ?_
  | ((try first|refine zKy rfl rfl rfl ?_|refine zJz rfl rfl ?_|refine zKx rfl rfl rfl ?_|refine zIw rfl rfl ?_);(refine zIv fun Q_ hQ_=>?_;simp (disch:=first|omega|(simp only [List.length_cons,List.length_nil,List.length_append];omega)) only [bb,bp,zLz,↓reduceIte,reduceCtorEq,Nat.reduceEqDiff,Nat.reduceLT,Nat.reduceLeDiff,Nat.reduceAdd,Nat.reduceMul,Nat.reduceSub,Nat.reduceBEq,Int.reduceToNat,cond_true,cond_false,eq_self,beq_self_eq_true,hl,hmk,zFw wf,zGy wf,zBw wf,zFx wf,zAy wf,zAx,tEvD16,zIx,zIy,zIz,zHv,zFv,zAw wf];first|(refine zCw (Q:=Q_) (fun hp_=>?_) (fun hp_=>?_) <;> first|(exfalso;omega)|(refine hQ_ _ _ ?_;clear hQ_ Q_))|(refine zBx (Q:=Q_) (fun hp_=>?_) (fun hp_=>?_) <;> first|(exfalso;omega)|(refine hQ_ _ _ ?_;clear hQ_ Q_))|(refine hQ_ _ _ ?_;clear hQ_ Q_)))
  | (refine zHx fun K_ hK_=>?_;simp (disch:=omega) only [zGz,zAz,zHw,↓reduceIte,reduceCtorEq,Nat.reduceEqDiff,Nat.reduceLT];refine hK_ _ ?_;clear hK_ K_)))
    refine yYv (fun (i:Nat) f d h'=>i≤ls.length∧f 3 = .sl (nx h 0) 0 ls.length (some ls.length) 2∧f 9=s∧f 10=ii (ls.length:Int)∧f 11=ii (i:Int)∧d=[] ∧
      h'=X h (.cells (zBv ((ls.take i).flatMap lnC++List.replicate ((ls.length - i) * 2) .nils)) 67 :: (ls.take i).map lnO) h.clock) (fun i=>ls.length - i) ?_ (ls.length+1) 0 (by omega) ?_
    · rintro i f d h' ⟨hi,g3,g9,g10,g11,rfl,rfl⟩
      by_cases hlt:i<ls.length
      · obtain ⟨id,off,hix,hld,hln⟩:=x.at ik_43 hlt
        obtain ⟨⟨fa,fa'⟩,⟨fb,fb'⟩⟩:=hln.flats
        have e1:((ls.take i).map lnO).length=i:=by rw [List.length_map,List.length_take];omega
        have e2:((ls.take i).flatMap lnC).length=i * 2:=by rw [flat_length xKz,List.length_take,Nat.min_eq_left (by omega)]
        have e3:(ls.take (i+1)).map lnO=(ls.take i).map lnO++[.cells (zBv [ls[i].a,ls[i].b]) 24]:=by rw [List.take_succ_eq_append_getElem hlt,List.map_append];rfl
        have e4:(ls.take (i+1)).flatMap lnC=(ls.take i).flatMap lnC++[ls[i].a,ls[i].b]:=by rw [List.take_succ_eq_append_getElem hlt,List.flatMap_append];simp [lnC]
        have e5:List.replicate ((ls.length - i) * 2) AV.nils=AV.nils :: AV.nils :: List.replicate ((ls.length - (i+1)) * 2) AV.nils:=by
          rw [show (ls.length - i) * 2=(ls.length - (i+1)) * 2+1+1 by omega,List.replicate_succ,List.replicate_succ]
        have hia:indexAddrE Try.prog 74 (.sl (nx h 0) 0 ls.length (some ls.length) 2) (.int .i64 (i:Int))=some (.ptr (nx h 0) (i * 2)):=by
          have ht:toNatE (.int .i64 (i:Int))=some i:=by rw [xRz (by omega),Int.toNat_natCast]
          simp only [xLv,ht,ik_74,xKy hlt,Nat.zero_add]
        rw [e5]
        generalize hG:(ls.take i).map lnO=G at *
        generalize hC:(ls.take i).flatMap lnC=C at *
        generalize hR:List.replicate ((ls.length - (i+1)) * 2) AV.nils=R at *
        have hwr : ∀ M w,writeCells (nx h 0) (i * 2) [ls[i].a,ls[i].b] (X h (.cells (zBv (C ++ .nils :: .nils :: R)) 67 :: M) w)=some (X h (.cells (zBv ((C++[ls[i].a,ls[i].b])++R)) 67 :: M) (min h.clock w)):=fun M w=>by
          rw [zAy wf,List.getElem?_cons_zero,xFy]
          have ho:allOne [ls[i].a,ls[i].b]=true:=by rw [xHy,fa',xHy,fb',xUy];rfl
          rw [ho,cond_true,if_pos (by simp only [List.length_append,List.length_cons,List.length_nil];omega)]
          have es:splice (C ++ .nils :: .nils :: R) (i * 2) [ls[i].a,ls[i].b]=(C++[ls[i].a,ls[i].b])++R:=by
            rw [xRx,← e2,List.take_left,show C.length+[ls[i].a,ls[i].b].length=C.length+2 from rfl,← List.drop_drop,List.drop_left]
            rfl
          rw [es]
          rfl
        (repeat' (first
  | (with_reducible first|refine zJw ?_|refine zHz ?_|refine zFz ?_|refine zEv ?_|refine zFy ?_|refine zJv ?_|refine zHy ?_|refine zCz ?_|refine zDw ?_|refine zCy ?_|refine zCv ?_|refine zEx ?_|refine zDz ?_|refine zCx ?_|refine zBy ?_|refine zEz ?_|refine zEy ?_|refine zAv ?_|refine zBz ?_)
  | refine zDy ?_|refine zEw rfl ?_|refine zJy ?_|refine zJx ?_
  | ((first|refine zGv rfl rfl rfl rfl rfl fun K_ hK_=>?_|refine zGw rfl rfl rfl rfl rfl fun K_ hK_=>?_);simp only [zAz,zDx,zGx,↓reduceIte,reduceCtorEq,Nat.reduceEqDiff,Bool.not_true,Bool.not_false];refine hK_ _ ?_;clear hK_ K_)
  | refine zDv (by decide) ?_
  | ((try first|refine zKy rfl rfl rfl ?_|refine zJz rfl rfl ?_|refine zKx rfl rfl rfl ?_|refine zIw rfl rfl ?_);(refine zIv fun Q_ hQ_=>?_;simp (disch:=first|omega|(simp only [List.length_cons,List.length_nil,List.length_append];omega)) only [bb,bp,zLz,↓reduceIte,reduceCtorEq,Nat.reduceEqDiff,Nat.reduceLT,Nat.reduceLeDiff,Nat.reduceAdd,Nat.reduceMul,Nat.reduceSub,Nat.reduceBEq,Int.reduceToNat,cond_true,cond_false,eq_self,beq_self_eq_true,g3,g9,g10,g11,hix,hld,fa,fb,fa',fb',hia,zFw wf,zGy wf,zBw wf,zFx wf,zAy wf,zAx,tEvD16,zIx,zIy,zIz,zHv,zFv,zAw wf];first|(refine zCw (Q:=Q_) (fun hp_=>?_) (fun hp_=>?_) <;> first|(exfalso;omega)|(refine hQ_ _ _ ?_;clear hQ_ Q_))|(refine zBx (Q:=Q_) (fun hp_=>?_) (fun hp_=>?_) <;> first|(exfalso;omega)|(refine hQ_ _ _ ?_;clear hQ_ Q_))|(refine hQ_ _ _ ?_;clear hQ_ Q_)))
  | (refine zHx fun K_ hK_=>?_;simp (disch:=omega) only [zGz,zAz,zHw,↓reduceIte,reduceCtorEq,Nat.reduceEqDiff,Nat.reduceLT];refine hK_ _ ?_;clear hK_ K_)))
        (repeat' (first
  | (with_reducible first|refine zJw ?_|refine zHz ?_|refine zFz ?_|refine zEv ?_|refine zFy ?_|refine zJv ?_|refine zHy ?_|refine zCz ?_|refine zDw ?_|refine zCy ?_|refine zCv ?_|refine zEx ?_|refine zDz ?_|refine zCx ?_|refine zBy ?_|refine zEz ?_|refine zEy ?_|refine zAv ?_|refine zBz ?_)
  | refine zDy ?_|refine zEw rfl ?_|refine zJy ?_|refine zJx ?_
  | ((first|refine zGv rfl rfl rfl rfl rfl fun K_ hK_=>?_|refine zGw rfl rfl rfl rfl rfl fun K_ hK_=>?_);simp only [zAz,zDx,zGx,↓reduceIte,reduceCtorEq,Nat.reduceEqDiff,Bool.not_true,Bool.not_false];refine hK_ _ ?_;clear hK_ K_)
  | refine zDv (by decide) ?_
  | ((try first|refine zKy rfl rfl rfl ?_|refine zJz rfl rfl ?_|refine zKx rfl rfl rfl ?_|refine zIw rfl rfl ?_);(refine zIv fun Q_ hQ_=>?_;simp (disch:=first|omega|(simp only [List.length_cons,List.length_nil,List.length_append];omega)) only [bb,bp,zLz,↓reduceIte,reduceCtorEq,Nat.reduceEqDiff,Nat.reduceLT,Nat.reduceLeDiff,Nat.reduceAdd,Nat.reduceMul,Nat.reduceSub,Nat.reduceBEq,Int.reduceToNat,cond_true,cond_false,eq_self,beq_self_eq_true,hwr,fa,fb,fa',fb',g11,zFw wf,zGy wf,zBw wf,tEvD16,zIx,zIy,zIz,zHv,zFv,zAw wf];first|(refine zCw (Q:=Q_) (fun hp_=>?_) (fun hp_=>?_) <;> first|(exfalso;omega)|(refine hQ_ _ _ ?_;clear hQ_ Q_))|(refine zBx (Q:=Q_) (fun hp_=>?_) (fun hp_=>?_) <;> first|(exfalso;omega)|(refine hQ_ _ _ ?_;clear hQ_ Q_))|(refine hQ_ _ _ ?_;clear hQ_ Q_)))
  | (refine zHx fun K_ hK_=>?_;simp (disch:=omega) only [zGz,zAz,zHw,↓reduceIte,reduceCtorEq,Nat.reduceEqDiff,Nat.reduceLT];refine hK_ _ ?_;clear hK_ K_)))
        refine zLw (i+1) (by omega) ⟨hlt,by simp only [zAz,↓reduceIte,reduceCtorEq,Nat.reduceEqDiff];exact g3,by simp only [zAz,↓reduceIte,reduceCtorEq,Nat.reduceEqDiff];exact g9,by simp only [zAz,↓reduceIte,reduceCtorEq,Nat.reduceEqDiff];exact g10,by simp only [zAz,↓reduceIte,reduceCtorEq,Nat.reduceEqDiff];rfl,rfl,?_⟩
        rw [e3,e4,hR,List.append_assoc]
        rfl
      · have hie:i=ls.length:=by omega
        subst hie
        (repeat' (first
  | (with_reducible first|refine zJw ?_|refine zHz ?_|refine zFz ?_|refine zEv ?_|refine zFy ?_|refine zJv ?_|refine zHy ?_|refine zCz ?_|refine zDw ?_|refine zCy ?_|refine zCv ?_|refine zEx ?_|refine zDz ?_|refine zCx ?_|refine zBy ?_|refine zEz ?_|refine zEy ?_|refine zAv ?_|refine zBz ?_)
  | refine zDy ?_|refine zEw rfl ?_|refine zJy ?_|refine zJx ?_
  | ((first|refine zGv rfl rfl rfl rfl rfl fun K_ hK_=>?_|refine zGw rfl rfl rfl rfl rfl fun K_ hK_=>?_);simp only [zAz,zDx,zGx,↓reduceIte,reduceCtorEq,Nat.reduceEqDiff,Bool.not_true,Bool.not_false];refine hK_ _ ?_;clear hK_ K_)
  | refine zDv (by decide) ?_
  | ((try first|refine zKy rfl rfl rfl ?_|refine zJz rfl rfl ?_|refine zKx rfl rfl rfl ?_|refine zIw rfl rfl ?_);(refine zIv fun Q_ hQ_=>?_;simp (disch:=first|omega|(simp only [List.length_cons,List.length_nil,List.length_append];omega)) only [bb,bp,zLz,↓reduceIte,reduceCtorEq,Nat.reduceEqDiff,Nat.reduceLT,Nat.reduceLeDiff,Nat.reduceAdd,Nat.reduceMul,Nat.reduceSub,Nat.reduceBEq,Int.reduceToNat,cond_true,cond_false,eq_self,beq_self_eq_true,g3,g9,g10,g11,zFw wf,zGy wf,zBw wf,zFx wf,zAy wf,zAx,tEvD16,zIx,zIy,zIz,zHv,zFv,zAw wf];first|(refine zCw (Q:=Q_) (fun hp_=>?_) (fun hp_=>?_) <;> first|(exfalso;omega)|(refine hQ_ _ _ ?_;clear hQ_ Q_))|(refine zBx (Q:=Q_) (fun hp_=>?_) (fun hp_=>?_) <;> first|(exfalso;omega)|(refine hQ_ _ _ ?_;clear hQ_ Q_))|(refine hQ_ _ _ ?_;clear hQ_ Q_)))
  | (refine zHx fun K_ hK_=>?_;simp (disch:=omega) only [zGz,zAz,zHw,↓reduceIte,reduceCtorEq,Nat.reduceEqDiff,Nat.reduceLT];refine hK_ _ ?_;clear hK_ K_)))
        refine zKz _ _ rfl (ret1 (by decide)) ?_
        simp only [zAz,↓reduceIte,reduceCtorEq,Nat.reduceEqDiff]
        refine WV_ext (by exact Bool.and_false _) ?_
        rw [List.take_of_length_le (Nat.le_refl _),Nat.sub_self,Nat.zero_mul,List.replicate_zero,List.append_nil]
        refine ⟨rfl,?_⟩
        rw [Nat.min_eq_left wf.wle]
    · refine ⟨Nat.zero_le _,by simp only [zAz,↓reduceIte,reduceCtorEq,Nat.reduceEqDiff],by simp only [zAz,↓reduceIte,reduceCtorEq,Nat.reduceEqDiff],by simp only [zAz,↓reduceIte,reduceCtorEq,Nat.reduceEqDiff],by simp only [zAz,↓reduceIte,reduceCtorEq,Nat.reduceEqDiff];rfl,rfl,?_⟩
      rw [List.take_zero,List.flatMap_nil,List.map_nil,List.nil_append,Nat.sub_zero]
  have x':=x.up L w hw
  rw [key _ x',X_X,nx_X,X_w]
  rfl

theorem mo_le {T:Te} (k:okT T):mo T T.t1≤mo T T.t0∧sh T T.s1≤sh T T.s0:=by
  have kt:=k.t
  have ks:=k.s
  exact ⟨mo_anti k (by omega) (by omega),sh_anti k (by omega) (by omega)⟩
theorem inside (a b:AV) (re cf:List Int) (u v:Int) (h:H) (x:LineR h a b re cf) (hn:2≤re.length∧re.length≤12):(om Try.prog KK).call (.fn 73 [.agg [a,b],.agg [ii u,ii v]]) h = .ok (.bool (decide (re.getD 0 0≤u∧v≤re.getD (re.length - 1) 0))) h:=by
  have wf:=x.wf
  obtain ⟨⟨fa,fa'⟩,⟨fb,fb'⟩⟩:=x.flats
  have ha : ∀ h',lenE Try.prog 22 a h'=some (ii (re.length:Int)):=fun h'=>x.re.len wAz
  obtain ⟨ia,oa,hxa,hla⟩:=zXv wf x.re (i:=0) (by omega)
  obtain ⟨ib,ob,hxb,hlb⟩:=zXv wf x.re (i:=re.length - 1) (by omega)
  rw [show ((re.length - 1:Nat):Int)=(re.length:Int) - 1 from by omega] at hxb
  have hxa':indexAddrE Try.prog 22 a (.int .i64 0)=some (.ptr ia oa):=hxa
  generalize re.getD 0 0=p at *
  generalize re.getD (re.length - 1) 0=q at *
  refine zWv (zLx (fn:=Try.f73) Try.func73 rfl rfl rfl rfl rfl ?_)
  simp only [zLz]
  (repeat' (first
  | (with_reducible first|refine zJw ?_|refine zHz ?_|refine zFz ?_|refine zEv ?_|refine zFy ?_|refine zJv ?_|refine zHy ?_|refine zCz ?_|refine zDw ?_|refine zCy ?_|refine zCv ?_|refine zEx ?_|refine zDz ?_|refine zCx ?_|refine zBy ?_|refine zEz ?_|refine zEy ?_|refine zAv ?_|refine zBz ?_)
  | refine zDy ?_|refine zEw rfl ?_|refine zJy ?_|refine zJx ?_
  | ((first|refine zGv rfl rfl rfl rfl rfl fun K_ hK_=>?_|refine zGw rfl rfl rfl rfl rfl fun K_ hK_=>?_);simp only [zAz,zDx,zGx,↓reduceIte,reduceCtorEq,Nat.reduceEqDiff,Bool.not_true,Bool.not_false];refine hK_ _ ?_;clear hK_ K_)
  | refine zDv (by decide) ?_
  | ((try first|refine zKy rfl rfl rfl ?_|refine zJz rfl rfl ?_|refine zKx rfl rfl rfl ?_|refine zIw rfl rfl ?_);(refine zIv fun Q_ hQ_=>?_;simp (disch:=first|omega|(simp only [List.length_cons,List.length_nil,List.length_append];omega)) only [bb,bp,zLz,↓reduceIte,reduceCtorEq,Nat.reduceEqDiff,Nat.reduceLT,Nat.reduceLeDiff,Nat.reduceAdd,Nat.reduceMul,Nat.reduceSub,Nat.reduceBEq,Int.reduceToNat,cond_true,cond_false,eq_self,beq_self_eq_true,fa,fb,fa',fb',zFw wf,zGy wf,zBw wf,zFx wf,zAy wf,zAx,tEvD16,zIx,zIy,zIz,zHv,zFv,zAw wf];first|(refine zCw (Q:=Q_) (fun hp_=>?_) (fun hp_=>?_) <;> first|(exfalso;omega)|(refine hQ_ _ _ ?_;clear hQ_ Q_))|(refine zBx (Q:=Q_) (fun hp_=>?_) (fun hp_=>?_) <;> first|(exfalso;omega)|(refine hQ_ _ _ ?_;clear hQ_ Q_))|(refine hQ_ _ _ ?_;clear hQ_ Q_)))
  | (refine zHx fun K_ hK_=>?_;simp (disch:=omega) only [zGz,zAz,zHw,↓reduceIte,reduceCtorEq,Nat.reduceEqDiff,Nat.reduceLT];refine hK_ _ ?_;clear hK_ K_)))
  refine zLy [.no,.no,.no,.no,.no,.no,.full,.full,.no,.no,.no,.no,.no,.no,.no,.no,.no,.no,.full,.full,.full] (by kernel_rfl) ?_
  (repeat' (first
  | (with_reducible first|refine zJw ?_|refine zHz ?_|refine zFz ?_|refine zEv ?_|refine zFy ?_|refine zJv ?_|refine zHy ?_|refine zCz ?_|refine zDw ?_|refine zCy ?_|refine zCv ?_|refine zEx ?_|refine zDz ?_|refine zCx ?_|refine zBy ?_|refine zEz ?_|refine zEy ?_|refine zAv ?_|refine zBz ?_)
  | refine zDy ?_|refine zEw rfl ?_|refine zJy ?_|refine zJx ?_
  | ((first|refine zGv rfl rfl rfl rfl rfl fun K_ hK_=>?_|refine zGw rfl rfl rfl rfl rfl fun K_ hK_=>?_);simp only [zAz,zDx,zGx,↓reduceIte,reduceCtorEq,Nat.reduceEqDiff,Bool.not_true,Bool.not_false];refine hK_ _ ?_;clear hK_ K_)
  | refine zDv (by decide) ?_
  | ((try first|refine zKy rfl rfl rfl ?_|refine zJz rfl rfl ?_|refine zKx rfl rfl rfl ?_|refine zIw rfl rfl ?_);(refine zIv fun Q_ hQ_=>?_;simp (disch:=first|omega|(simp only [List.length_cons,List.length_nil,List.length_append];omega)) only [bb,bp,zLz,↓reduceIte,reduceCtorEq,Nat.reduceEqDiff,Nat.reduceLT,Nat.reduceLeDiff,Nat.reduceAdd,Nat.reduceMul,Nat.reduceSub,Nat.reduceBEq,Int.reduceToNat,cond_true,cond_false,eq_self,beq_self_eq_true,ha,fa,fb,fa',fb',hxa',hla,hxb,hlb,zFw wf,zGy wf,zBw wf,zFx wf,zAy wf,zAx,tEvD16,zIx,zIy,zIz,zHv,zFv,zAw wf];first|(refine zCw (Q:=Q_) (fun hp_=>?_) (fun hp_=>?_) <;> first|(exfalso;omega)|(refine hQ_ _ _ ?_;clear hQ_ Q_))|(refine zBx (Q:=Q_) (fun hp_=>?_) (fun hp_=>?_) <;> first|(exfalso;omega)|(refine hQ_ _ _ ?_;clear hQ_ Q_))|(refine hQ_ _ _ ?_;clear hQ_ Q_)))
  | (refine zHx fun K_ hK_=>?_;simp (disch:=omega) only [zGz,zAz,zHw,↓reduceIte,reduceCtorEq,Nat.reduceEqDiff,Nat.reduceLT];refine hK_ _ ?_;clear hK_ K_)))
  all_goals (refine zKz _ _ rfl (ret1 (by decide)) ?_;simp only [zAz,↓reduceIte,reduceCtorEq,Nat.reduceEqDiff];refine zKw rfl (by omega) ?_)
  all_goals exact ⟨by congr 1;first|(rw [decide_eq_true];omega)|(rw [decide_eq_false];omega),rfl⟩

theorem Reckoned (T:Te) (k:okT T) (s:AV) (ls:List Ln) (hk:okLs ls) (h:H) (x:LinesR h s ls):(om Try.prog KK).call (.fn 57 [.agg [ii T.sp,ii T.lo,ii T.we,ii T.al,ii T.f0,ii T.f1,ii T.t0,ii T.t1,ii T.s0,ii T.s1,ii T.o0,ii T.o1,ii T.b0,ii T.b1,ii T.r0,ii T.r1],s]) h = .ok (.bool (decide (rk T ls))) h:=by
  have wf:=x.wf
  obtain ⟨fs,fs'⟩:=x.flat
  have hl : ∀ h',lenE Try.prog 43 s h'=some (ii (ls.length:Int)):=fun h'=>x.sl.len un_43
  have hle:=mo_le k
  have hn4:=hk.n
  have er:(om Try.prog KK).call (.fn 20 [.agg [ii T.sp,ii T.lo,ii T.we,ii T.al,ii T.f0,ii T.f1,ii T.t0,ii T.t1,ii T.s0,ii T.s1,ii T.o0,ii T.o1,ii T.b0,ii T.b1,ii T.r0,ii T.r1]]) (X h [.cells (zBv [ii T.sp,ii T.lo,ii T.we,ii T.al,ii T.f0,ii T.f1,ii T.t0,ii T.t1,ii T.s0,ii T.s1,ii T.o0,ii T.o1,ii T.b0,ii T.b1,ii T.r0,ii T.r1]) 35] h.clock) = .ok (.tup [.agg [ii (mo T T.t1),ii (mo T T.t0)],.agg [ii (sh T T.s1),ii (sh T T.s0)],ii 0]) (X h [.cells (zBv [ii T.sp,ii T.lo,ii T.we,ii T.al,ii T.f0,ii T.f1,ii T.t0,ii T.t1,ii T.s0,ii T.s1,ii T.o0,ii T.o1,ii T.b0,ii T.b1,ii T.r0,ii T.r1]) 35] h.clock):=by
    rw [refReynolds T _ (wf.X (Nat.le_add_right _ _)),yYy k,show reyA T=_ from if_pos k,show reyB T=_ from if_pos k]
  refine zWv (zLx (fn:=Try.f57) Try.func57 rfl rfl rfl rfl rfl ?_)
  simp only [zLz]
  (repeat' (first
  | (with_reducible first|refine zJw ?_|refine zHz ?_|refine zFz ?_|refine zEv ?_|refine zFy ?_|refine zJv ?_|refine zHy ?_|refine zCz ?_|refine zDw ?_|refine zCy ?_|refine zCv ?_|refine zEx ?_|refine zDz ?_|refine zCx ?_|refine zBy ?_|refine zEz ?_|refine zEy ?_|refine zAv ?_|refine zBz ?_)
  | refine zDy ?_|refine zEw rfl ?_|refine zJy ?_|refine zJx ?_
  | ((first|refine zGv rfl rfl rfl rfl rfl fun K_ hK_=>?_|refine zGw rfl rfl rfl rfl rfl fun K_ hK_=>?_);simp only [zAz,zDx,zGx,↓reduceIte,reduceCtorEq,Nat.reduceEqDiff,Bool.not_true,Bool.not_false];refine hK_ _ ?_;clear hK_ K_)
  | refine zDv (by decide) ?_
  | ((try first|refine zKy rfl rfl rfl ?_|refine zJz rfl rfl ?_|refine zKx rfl rfl rfl ?_|refine zIw rfl rfl ?_);(refine zIv fun Q_ hQ_=>?_;simp (disch:=first|omega|(simp only [List.length_cons,List.length_nil,List.length_append];omega)) only [bb,bp,zLz,↓reduceIte,reduceCtorEq,Nat.reduceEqDiff,Nat.reduceLT,Nat.reduceLeDiff,Nat.reduceAdd,Nat.reduceMul,Nat.reduceSub,Nat.reduceBEq,Int.reduceToNat,cond_true,cond_false,eq_self,beq_self_eq_true,zFw wf,zGy wf,zBw wf,zFx wf,zAy wf,zAx,tEvD16,zIx,zIy,zIz,zHv,zFv,zAw wf];first|(refine zCw (Q:=Q_) (fun hp_=>?_) (fun hp_=>?_) <;> first|(exfalso;omega)|(refine hQ_ _ _ ?_;clear hQ_ Q_))|(refine zBx (Q:=Q_) (fun hp_=>?_) (fun hp_=>?_) <;> first|(exfalso;omega)|(refine hQ_ _ _ ?_;clear hQ_ Q_))|(refine hQ_ _ _ ?_;clear hQ_ Q_)|(refine zLv (er) ?_;refine hQ_ _ _ ?_;clear hQ_ Q_)))
  | (refine zHx fun K_ hK_=>?_;simp (disch:=omega) only [zGz,zAz,zHw,↓reduceIte,reduceCtorEq,Nat.reduceEqDiff,Nat.reduceLT];refine hK_ _ ?_;clear hK_ K_)))
  refine yYv (fun (i:Nat) f d h'=>i≤ls.length∧(∀ j (hj:j<ls.length),j<i→inAll T ls[j].re)∧f 1=s∧f 5 = .ptr (nx h 1) 0∧f 6 = .ptr (nx h 2) 0∧f 8=ii (i:Int)∧d=[] ∧
      h'=X h [.cells (zBv [ii T.sp,ii T.lo,ii T.we,ii T.al,ii T.f0,ii T.f1,ii T.t0,ii T.t1,ii T.s0,ii T.s1,ii T.o0,ii T.o1,ii T.b0,ii T.b1,ii T.r0,ii T.r1]) 35,.cells (zBv [ii (mo T T.t1),ii (mo T T.t0)]) 33,.cells (zBv [ii (sh T T.s1),ii (sh T T.s0)]) 33] h.clock) (fun i=>ls.length - i) ?_ (ls.length+1) 0 (by omega) ?_
  · rintro i f d h' ⟨hi,hall,g1,g5,g6,g8,rfl,rfl⟩
    by_cases hlt:i<ls.length
    · obtain ⟨id,off,hix,hld,hln⟩:=x.at ik_43 hlt
      obtain ⟨⟨fa,fa'⟩,⟨fb,fb'⟩⟩:=hln.flats
      have kl:=hk.ok _ (List.getElem_mem hlt)
      have c1 : ∀ u v l w,w≤h.clock+l.length→(om Try.prog KK).call (.fn 73 [.agg [ls[i].a,ls[i].b],.agg [ii u,ii v]]) (X h l w) = .ok (.bool (decide (ls[i].re.getD 0 0≤u∧v≤ls[i].re.getD (ls[i].re.length - 1) 0))) (X h l w):=fun u v l w hw=>inside _ _ _ _ u v _ (hln.up _ _ hw) kl.n
      have hid:inAll T ls[i].re ↔ ((ls[i].re.getD 0 0≤mo T T.t1∧mo T T.t0≤ls[i].re.getD (ls[i].re.length - 1) 0)∧(ls[i].re.getD 0 0≤sh T T.s1∧sh T T.s0≤ls[i].re.getD (ls[i].re.length - 1) 0)):=by
        unfold inAll has;omega
      (repeat' (first
  | (with_reducible first|refine zJw ?_|refine zHz ?_|refine zFz ?_|refine zEv ?_|refine zFy ?_|refine zJv ?_|refine zHy ?_|refine zCz ?_|refine zDw ?_|refine zCy ?_|refine zCv ?_|refine zEx ?_|refine zDz ?_|refine zCx ?_|refine zBy ?_|refine zEz ?_|refine zEy ?_|refine zAv ?_|refine zBz ?_)
  | refine zDy ?_|refine zEw rfl ?_|refine zJy ?_|refine zJx ?_
  | ((first|refine zGv rfl rfl rfl rfl rfl fun K_ hK_=>?_|refine zGw rfl rfl rfl rfl rfl fun K_ hK_=>?_);simp only [zAz,zDx,zGx,↓reduceIte,reduceCtorEq,Nat.reduceEqDiff,Bool.not_true,Bool.not_false];refine hK_ _ ?_;clear hK_ K_)
  | refine zDv (by decide) ?_
  | ((try first|refine zKy rfl rfl rfl ?_|refine zJz rfl rfl ?_|refine zKx rfl rfl rfl ?_|refine zIw rfl rfl ?_);(refine zIv fun Q_ hQ_=>?_;simp (disch:=first|omega|(simp only [List.length_cons,List.length_nil,List.length_append];omega)) only [bb,bp,zLz,↓reduceIte,reduceCtorEq,Nat.reduceEqDiff,Nat.reduceLT,Nat.reduceLeDiff,Nat.reduceAdd,Nat.reduceMul,Nat.reduceSub,Nat.reduceBEq,Int.reduceToNat,cond_true,cond_false,eq_self,beq_self_eq_true,g1,g5,g6,g8,hl,zFw wf,zGy wf,zBw wf,zFx wf,zAy wf,zAx,tEvD16,zIx,zIy,zIz,zHv,zFv,zAw wf];first|(refine zCw (Q:=Q_) (fun hp_=>?_) (fun hp_=>?_) <;> first|(exfalso;omega)|(refine hQ_ _ _ ?_;clear hQ_ Q_))|(refine zBx (Q:=Q_) (fun hp_=>?_) (fun hp_=>?_) <;> first|(exfalso;omega)|(refine hQ_ _ _ ?_;clear hQ_ Q_))|(refine hQ_ _ _ ?_;clear hQ_ Q_)))
  | (refine zHx fun K_ hK_=>?_;simp (disch:=omega) only [zGz,zAz,zHw,↓reduceIte,reduceCtorEq,Nat.reduceEqDiff,Nat.reduceLT];refine hK_ _ ?_;clear hK_ K_)))
      refine zLy [.no,.no,.no,.no,.no,.full,.full,.full,.no,.no,.no,.no,.no,.full,.full,.full] (by kernel_rfl) ?_
      (repeat' (first
  | (with_reducible first|refine zJw ?_|refine zHz ?_|refine zFz ?_|refine zEv ?_|refine zFy ?_|refine zJv ?_|refine zHy ?_|refine zCz ?_|refine zDw ?_|refine zCy ?_|refine zCv ?_|refine zEx ?_|refine zDz ?_|refine zCx ?_|refine zBy ?_|refine zEz ?_|refine zEy ?_|refine zAv ?_|refine zBz ?_)
  | refine zDy ?_|refine zEw rfl ?_|refine zJy ?_|refine zJx ?_
  | ((first|refine zGv rfl rfl rfl rfl rfl fun K_ hK_=>?_|refine zGw rfl rfl rfl rfl rfl fun K_ hK_=>?_);simp only [zAz,zDx,zGx,↓reduceIte,reduceCtorEq,Nat.reduceEqDiff,Bool.not_true,Bool.not_false];refine hK_ _ ?_;clear hK_ K_)
  | refine zDv (by decide) ?_
  | ((try first|refine zKy rfl rfl rfl ?_|refine zJz rfl rfl ?_|refine zKx rfl rfl rfl ?_|refine zIw rfl rfl ?_);(refine zIv fun Q_ hQ_=>?_;simp (disch:=first|omega|(simp only [List.length_cons,List.length_nil,List.length_append];omega)) only [bb,bp,zLz,↓reduceIte,reduceCtorEq,Nat.reduceEqDiff,Nat.reduceLT,Nat.reduceLeDiff,Nat.reduceAdd,Nat.reduceMul,Nat.reduceSub,Nat.reduceBEq,Int.reduceToNat,cond_true,cond_false,eq_self,beq_self_eq_true,g1,g5,g6,g8,hix,hld,fa,fb,fa',fb',c1,zFw wf,zGy wf,zBw wf,zFx wf,zAy wf,zAx,tEvD16,zIx,zIy,zIz,zHv,zFv,zAw wf];first|(refine zCw (Q:=Q_) (fun hp_=>?_) (fun hp_=>?_) <;> first|(exfalso;omega)|(refine hQ_ _ _ ?_;clear hQ_ Q_))|(refine zBx (Q:=Q_) (fun hp_=>?_) (fun hp_=>?_) <;> first|(exfalso;omega)|(refine hQ_ _ _ ?_;clear hQ_ Q_))|(refine hQ_ _ _ ?_;clear hQ_ Q_)))
  | (refine zHx fun K_ hK_=>?_;simp (disch:=omega) only [zGz,zAz,zHw,↓reduceIte,reduceCtorEq,Nat.reduceEqDiff,Nat.reduceLT];refine hK_ _ ?_;clear hK_ K_)))
      all_goals first
        | (refine zLw (i+1) (by omega) ⟨hlt,fun j hj hji=>?_,by simp only [zAz,↓reduceIte,reduceCtorEq,Nat.reduceEqDiff];exact g1,by simp only [zAz,↓reduceIte,reduceCtorEq,Nat.reduceEqDiff];exact g5,by simp only [zAz,↓reduceIte,reduceCtorEq,Nat.reduceEqDiff];exact g6,by simp only [zAz,↓reduceIte,reduceCtorEq,Nat.reduceEqDiff];rfl,rfl,rfl⟩
           by_cases hje:j=i
           · subst hje;exact hid.2 ⟨by assumption,by assumption⟩
           · exact hall j hj (by omega))
        | ((refine zKz _ _ rfl (ret1 (by decide)) ?_;simp only [zAz,↓reduceIte,reduceCtorEq,Nat.reduceEqDiff];refine zKw rfl (by omega) ?_)
           exact ⟨by rw [decide_eq_false];intro q;have:=hid.1 (q _ (List.getElem_mem hlt));omega,rfl⟩)
    · have hie:i=ls.length:=by omega
      have hr:rk T ls:=fun l hl2=>by
        obtain ⟨j,hj,rfl⟩:=List.getElem_of_mem hl2
        exact hall j hj (by omega)
      (repeat' (first
  | (with_reducible first|refine zJw ?_|refine zHz ?_|refine zFz ?_|refine zEv ?_|refine zFy ?_|refine zJv ?_|refine zHy ?_|refine zCz ?_|refine zDw ?_|refine zCy ?_|refine zCv ?_|refine zEx ?_|refine zDz ?_|refine zCx ?_|refine zBy ?_|refine zEz ?_|refine zEy ?_|refine zAv ?_|refine zBz ?_)
  | refine zDy ?_|refine zEw rfl ?_|refine zJy ?_|refine zJx ?_
  | ((first|refine zGv rfl rfl rfl rfl rfl fun K_ hK_=>?_|refine zGw rfl rfl rfl rfl rfl fun K_ hK_=>?_);simp only [zAz,zDx,zGx,↓reduceIte,reduceCtorEq,Nat.reduceEqDiff,Bool.not_true,Bool.not_false];refine hK_ _ ?_;clear hK_ K_)
  | refine zDv (by decide) ?_
  | ((try first|refine zKy rfl rfl rfl ?_|refine zJz rfl rfl ?_|refine zKx rfl rfl rfl ?_|refine zIw rfl rfl ?_);(refine zIv fun Q_ hQ_=>?_;simp (disch:=first|omega|(simp only [List.length_cons,List.length_nil,List.length_append];omega)) only [bb,bp,zLz,↓reduceIte,reduceCtorEq,Nat.reduceEqDiff,Nat.reduceLT,Nat.reduceLeDiff,Nat.reduceAdd,Nat.reduceMul,Nat.reduceSub,Nat.reduceBEq,Int.reduceToNat,cond_true,cond_false,eq_self,beq_self_eq_true,g1,g5,g6,g8,hl,zFw wf,zGy wf,zBw wf,zFx wf,zAy wf,zAx,tEvD16,zIx,zIy,zIz,zHv,zFv,zAw wf];first|(refine zCw (Q:=Q_) (fun hp_=>?_) (fun hp_=>?_) <;> first|(exfalso;omega)|(refine hQ_ _ _ ?_;clear hQ_ Q_))|(refine zBx (Q:=Q_) (fun hp_=>?_) (fun hp_=>?_) <;> first|(exfalso;omega)|(refine hQ_ _ _ ?_;clear hQ_ Q_))|(refine hQ_ _ _ ?_;clear hQ_ Q_)))
  | (refine zHx fun K_ hK_=>?_;simp (disch:=omega) only [zGz,zAz,zHw,↓reduceIte,reduceCtorEq,Nat.reduceEqDiff,Nat.reduceLT];refine hK_ _ ?_;clear hK_ K_)))
      (refine zKz _ _ rfl (ret1 (by decide)) ?_;simp only [zAz,↓reduceIte,reduceCtorEq,Nat.reduceEqDiff];refine zKw rfl (by omega) ?_)
      exact ⟨by rw [decide_eq_true hr],rfl⟩
  · exact ⟨Nat.zero_le _,fun j _ hj=>absurd hj (Nat.not_lt_zero j),by simp only [zAz,↓reduceIte,reduceCtorEq,Nat.reduceEqDiff],by simp only [zAz,↓reduceIte,reduceCtorEq,Nat.reduceEqDiff],by simp only [zAz,↓reduceIte,reduceCtorEq,Nat.reduceEqDiff],by simp only [zAz,↓reduceIte,reduceCtorEq,Nat.reduceEqDiff];rfl,rfl,rfl⟩
end Go.Proofs.Ythaleckfgcgegaa
end

section
namespace Go.Ev
section
variable {P:Program}
theorem xPx {t e i n:Nat} {cs:List AV} {v:AV} (hu:P.underlying t=some (.array n e)) (hz:sizeE P e=some 1) (ha:isAggB P e=some false) (hi:i<n) (hv:cs[i]? = some v):indexE P t (.agg cs) (.int .i64 (i:Int))=some v:=by
  unfold indexE
  rw [xDv]
  dsimp only
  rw [hu]
  dsimp only
  rw [hz]
  dsimp only
  rw [Nat.ble_eq_true_of_le (show Nat.succ i≤n from hi)]
  show partE P e cs (i * 1)=_
  unfold partE
  rw [ha,Nat.mul_one]
  exact hv
end
end Go.Ev
end

section
namespace Go.Ev
variable {P:Program}
def CapL (a:AV):Prop:=∀ id off l c esz,a = .sl id off l (some c) esz→l≤c
theorem capl_none {id:Pos} {off len esz:Nat} : CapL (.sl id off len none esz):=fun _ _ _ _ _ e=>by simp at e
theorem capl_some {id:Pos} {off len cap esz:Nat} (h:len≤cap):CapL (.sl id off len (some cap) esz):=fun _ _ _ _ _ e=>by
  injection e with e1 e2 e3 e4 e5
  injection e4 with e4
  omega
def CapU (m:Nat) (a:AV):Prop:=CapL a∧Cape m a
theorem Capd.capu {a:AV} (h:Capd a) (m:Nat):CapU m a:=⟨h.2,h.cape m⟩
theorem capu_none {id:Pos} {off len m:Nat} : CapU m (.sl id off len none m):=⟨capl_none,fun _ _ _ _ e=>by injection e with _ _ _ _ e;exact e.symm⟩
theorem capu_some {id:Pos} {off len cap esz m:Nat} (h:len≤cap):CapU m (.sl id off len (some cap) esz):=⟨capl_some h,fun _ _ _ _ e=>by simp at e⟩
end Go.Ev
end

section
namespace Go.Ev
variable {P:Program}
theorem Sl.cut {h:H} {a:AV} {m len:Nat} {cells:List AV} (s:Sl h a m len cells) {lo hi:Option Nat} {l hh:Nat} (hlh:l≤hh) (hhl:hh≤len) (hlo:lo.getD 0=l) (hhi:hi.getD len=hh) {t e:TypeId} (hu:P.underlying t=some (.slice e)) (hz:sizeE P e=some m) (hm:0<m) (hc:CapU m a) :
    ∃ b,sliceE P t (reszT P t a) lo hi none=some b∧Sl h b m (hh - l) ((cells.drop (l * m)).take ((hh - l) * m))∧CapU m b:=by
  have hml:hh * m≤len * m:=Nat.mul_le_mul_right _ hhl
  have hmk:l * m≤hh * m:=Nat.mul_le_mul_right _ hlh
  obtain ⟨hl,⟨rfl,rfl⟩|⟨id,off,cap,esz,o,cs,rfl,hg,hcs,hx⟩⟩:=s
  · have e1:hh=0:=by omega
    have e2:l=0:=by omega
    subst e1 e2
    have hr:reszT P t .nils = .nils:=by unfold reszT;rw [hu];dsimp only;rw [hz];rfl
    have hb:boundsE 0 (some 0) lo hi none=some (0,0,some 0):=by
      unfold boundsE
      show (bif Nat.ble (hi.getD 0) 0 && Nat.ble (lo.getD 0) (hi.getD 0) then some (lo.getD 0,hi.getD 0,some 0) else none)=_
      rw [hhi,hlo];rfl
    refine ⟨.nils,?_,?_,?_⟩
    · rw [hr]
      unfold sliceE;rw [hu];dsimp only;rw [hz,hb]
    · refine ⟨?_,.inl ⟨rfl,rfl⟩⟩
      simp
    · exact Capd.capu capd_nils m
  · have hk : ∀ j,j<(hh - l) * m→cs (off+l * m+j)=((cells.drop (l * m)).take ((hh - l) * m))[j]?:=fun j hj=>by
      rw [List.getElem?_take_of_lt hj,List.getElem?_drop]
      have hj':l * m+j<len * m:=by rw [Nat.sub_mul] at hj;omega
      have:=hx (l * m+j) hj'
      rw [← this,Nat.add_assoc]
    have hln:((cells.drop (l * m)).take ((hh - l) * m)).length=(hh - l) * m:=by
      rw [List.length_take,List.length_drop,hl,Nat.sub_mul];omega
    cases cap with
    | none=>
      have he:esz=m:=hc.2 _ _ _ _ rfl
      subst he
      have hr:reszT P t (.sl id off len none esz) = .sl id off len none esz:=by unfold reszT;rw [hu];dsimp only;rw [hz];rfl
      have hb:boundsE len none lo hi none=some (l,hh,none):=by
        unfold boundsE
        show (bif Nat.ble (hi.getD len) len && Nat.ble (lo.getD 0) (hi.getD len) then some (lo.getD 0,hi.getD len,(none:Option Nat)) else none)=_
        rw [hhi,hlo,Nat.ble_eq_true_of_le hhl,Nat.ble_eq_true_of_le hlh];rfl
      have hof:sliceOf id off esz (some (l,hh,none))=some (.sl id (off+l * esz) (hh - l) none esz):=by
        cases l with
        | zero=>show some (AV.sl id off hh none esz)=_;rw [Nat.zero_mul,Nat.add_zero,Nat.sub_zero]
        | succ l=>
          show (bif Nat.beq (off+(l+1) * esz) 0 then none else some (AV.sl id (off+(l+1) * esz) (hh - (l+1)) none esz))=_
          have:off+(l+1) * esz≠0:=by have:=Nat.mul_pos (Nat.succ_pos l) hm;rw [Nat.succ_eq_add_one] at this;omega
          rw [show Nat.beq (off+(l+1) * esz) 0=false from by cases hb:Nat.beq (off+(l+1) * esz) 0 with|false=>rfl|true=>exact absurd (Nat.eq_of_beq_eq_true hb) this];rfl
      refine ⟨.sl id (off+l * esz) (hh - l) none esz,?_,⟨hln,.inr ⟨_,_,_,_,o,cs,rfl,hg,hcs,hk⟩⟩,capu_none⟩
      rw [hr]
      unfold sliceE;rw [hu];dsimp only;rw [hz];dsimp only
      rw [show Nat.beq esz esz=true from Nat.beq_refl esz,hb];exact hof
    | some c=>
      have hlc:=hc.1 id off len c esz rfl
      have hr:reszT P t (.sl id off len (some c) esz) = .sl id off len (some c) m:=by unfold reszT;rw [hu];dsimp only;rw [hz];rfl
      have hb:boundsE len (some c) lo hi none=some (l,hh,some c):=by
        unfold boundsE
        show (bif Nat.ble (hi.getD len) c && Nat.ble (lo.getD 0) (hi.getD len) then some (lo.getD 0,hi.getD len,some c) else none)=_
        rw [hhi,hlo,Nat.ble_eq_true_of_le (show hh≤c by omega),Nat.ble_eq_true_of_le hlh];rfl
      refine ⟨.sl id (bif Nat.beq c l then off else off+l * m) (hh - l) (some (c - l)) m,?_,⟨hln,.inr ⟨_,_,_,_,o,cs,rfl,hg,hcs,fun j hj=>?_⟩⟩,capu_some (by omega)⟩
      · rw [hr]
        unfold sliceE;rw [hu];dsimp only;rw [hz];dsimp only
        rw [show Nat.beq m m=true from Nat.beq_refl m,hb];rfl
      · rw [← hk j hj]
        cases hbq:Nat.beq c l with
        | true=>
          have:=Nat.eq_of_beq_eq_true hbq
          subst this
          have e:hh - c=0:=by omega
          rw [e,Nat.zero_mul] at hj
          omega
        | false=>rfl
theorem Sl.cutFrom {h:H} {a:AV} {m len:Nat} {cells:List AV} (s:Sl h a m len cells) {k:Nat} (hk:k≤len) {t e:TypeId} (hu:P.underlying t=some (.slice e)) (hz:sizeE P e=some m) (hm:0<m) (hc:CapU m a) :
    ∃ b,sliceE P t (reszT P t a) (some k) none none=some b∧Sl h b m (len - k) (cells.drop (k * m))∧CapU m b:=by
  have:=s.cut (P:=P) (lo:=some k) (hi:=none) hk (Nat.le_refl len) rfl rfl hu hz hm hc
  have e:(cells.drop (k * m)).take ((len - k) * m)=cells.drop (k * m):=List.take_of_length_le (by rw [List.length_drop,s.1,Nat.sub_mul];exact Nat.le_refl _)
  rwa [e] at this
end Go.Ev
end

section
namespace Go.Proofs.Ythaleckfgcgegaa
open Go.Ev
set_option maxRecDepth 100000
set_option linter.unusedSimpArgs false
set_option linter.unusedVariables false
set_option maxHeartbeats 2000000
theorem tEvD17 :type_of% (And.intro (And.intro (And.intro (And.intro (And.intro (And.intro (And.intro (@yXx) (@yXy)) (And.intro (@yXz) (And.intro (@yWv) (@yWw)))) (And.intro (And.intro (@yWx) (And.intro (@yWy) (@yWz))) (And.intro (@zWz) (And.intro (@ia_2) (@sz_2))))) (And.intro (And.intro (And.intro (@ia_3) (@sz_3)) (And.intro (@ia_4) (And.intro (@sz_4) (@yVv)))) (And.intro (And.intro (@yFz) (And.intro (@yVw) (@yEv))) (And.intro (@yVx) (And.intro (@yEw) (@yVy)))))) (And.intro (And.intro (And.intro (And.intro (@yEx) (@yVz)) (And.intro (@yEy) (And.intro (@yUv) (@yEz)))) (And.intro (And.intro (@yUw) (And.intro (@yDv) (@yUx))) (And.intro (@yDw) (And.intro (@yUy) (@yDx))))) (And.intro (And.intro (And.intro (@yUz) (@yDy)) (And.intro (@yTv) (And.intro (@zYy) (@yTw)))) (And.intro (And.intro (@yDz) (And.intro (@yTx) (@yCv))) (And.intro (@yTy) (And.intro (@yCw) (@yTz))))))) (And.intro (And.intro (And.intro (And.intro (And.intro (@yCx) (@ySv)) (And.intro (@yCy) (And.intro (@ySw) (@yCz)))) (And.intro (And.intro (@ySx) (And.intro (@yBv) (@ySy))) (And.intro (@yBw) (And.intro (@ySz) (@yBx))))) (And.intro (And.intro (And.intro (@yRv) (@yBy)) (And.intro (@zVv) (And.intro (@zUx) (@zVw)))) (And.intro (And.intro (@zUy) (And.intro (@zVx) (@zUz))) (And.intro (@zVy) (And.intro (@zTv) (@zVz)))))) (And.intro (And.intro (And.intro (And.intro (@zTw) (@zUv)) (And.intro (@zTx) (And.intro (@zUw) (@zTy)))) (And.intro (And.intro (@ze_2) (And.intro (@ze_3) (@ze_4))) (And.intro (@yBz) (And.intro (@yAv) (@yAw))))) (And.intro (And.intro (And.intro (@yAx) (And.intro (@yAy) (@yAz))) (And.intro (@zZv) (And.intro (@zZw) (@zZx)))) (And.intro (And.intro (@zTz) (And.intro (@zSz) (@zRv))) (And.intro (@zRw) (And.intro (@zRx) (@zRy)))))))) (And.intro (And.intro (And.intro (And.intro (And.intro (And.intro (@zRz) (@zQv)) (And.intro (@zQw) (And.intro (@zQx) (@zQy)))) (And.intro (And.intro (@zQz) (And.intro (@zPv) (@zPw))) (And.intro (@zPx) (And.intro (@zPy) (@zPz))))) (And.intro (And.intro (And.intro (@zOv) (@zOw)) (And.intro (@zOx) (And.intro (@zOy) (@zOz)))) (And.intro (And.intro (@zNv) (And.intro (@zNw) (@zNx))) (And.intro (@zNy) (And.intro (@zNz) (@zMv)))))) (And.intro (And.intro (And.intro (And.intro (@zMw) (@yRw)) (And.intro (@yRx) (And.intro (@yRy) (@yRz)))) (And.intro (And.intro (@yQv) (And.intro (@yQw) (@yQx))) (And.intro (@yQy) (And.intro (@yQz) (@yPv))))) (And.intro (And.intro (And.intro (@yPw) (And.intro (@yPx) (@yPy))) (And.intro (@yPz) (And.intro (@yOv) (@yOw)))) (And.intro (And.intro (@yOx) (And.intro (@yOy) (@yOz))) (And.intro (@yNv) (And.intro (@yNw) (@yNx))))))) (And.intro (And.intro (And.intro (And.intro (And.intro (@yNy) (@yNz)) (And.intro (@yMv) (And.intro (@yMw) (@yMx)))) (And.intro (And.intro (@yMy) (And.intro (@yMz) (@yLv))) (And.intro (@yLw) (And.intro (@yLx) (@yLy))))) (And.intro (And.intro (And.intro (@yLz) (@yKv)) (And.intro (@yKw) (And.intro (@yKx) (@yKy)))) (And.intro (And.intro (@yKz) (And.intro (@yJv) (@yJw))) (And.intro (@yJx) (And.intro (@yJy) (@yJz)))))) (And.intro (And.intro (And.intro (And.intro (@yIv) (@yIw)) (And.intro (@yIx) (And.intro (@yIy) (@yIz)))) (And.intro (And.intro (@yHv) (And.intro (@zZy) (@zZz))) (And.intro (@yHw) (And.intro (@yHx) (@yHy))))) (And.intro (And.intro (And.intro (@yHz) (And.intro (@yGv) (@yGw))) (And.intro (@yGx) (And.intro (@yGy) (@yGz)))) (And.intro (And.intro (@yFv) (And.intro (@yFw) (@zYv))) (And.intro (@yFx) (And.intro (@yFy) (@zYw))))))))):=And.intro (And.intro (And.intro (And.intro (And.intro (And.intro (And.intro (@yXx) (@yXy)) (And.intro (@yXz) (And.intro (@yWv) (@yWw)))) (And.intro (And.intro (@yWx) (And.intro (@yWy) (@yWz))) (And.intro (@zWz) (And.intro (@ia_2) (@sz_2))))) (And.intro (And.intro (And.intro (@ia_3) (@sz_3)) (And.intro (@ia_4) (And.intro (@sz_4) (@yVv)))) (And.intro (And.intro (@yFz) (And.intro (@yVw) (@yEv))) (And.intro (@yVx) (And.intro (@yEw) (@yVy)))))) (And.intro (And.intro (And.intro (And.intro (@yEx) (@yVz)) (And.intro (@yEy) (And.intro (@yUv) (@yEz)))) (And.intro (And.intro (@yUw) (And.intro (@yDv) (@yUx))) (And.intro (@yDw) (And.intro (@yUy) (@yDx))))) (And.intro (And.intro (And.intro (@yUz) (@yDy)) (And.intro (@yTv) (And.intro (@zYy) (@yTw)))) (And.intro (And.intro (@yDz) (And.intro (@yTx) (@yCv))) (And.intro (@yTy) (And.intro (@yCw) (@yTz))))))) (And.intro (And.intro (And.intro (And.intro (And.intro (@yCx) (@ySv)) (And.intro (@yCy) (And.intro (@ySw) (@yCz)))) (And.intro (And.intro (@ySx) (And.intro (@yBv) (@ySy))) (And.intro (@yBw) (And.intro (@ySz) (@yBx))))) (And.intro (And.intro (And.intro (@yRv) (@yBy)) (And.intro (@zVv) (And.intro (@zUx) (@zVw)))) (And.intro (And.intro (@zUy) (And.intro (@zVx) (@zUz))) (And.intro (@zVy) (And.intro (@zTv) (@zVz)))))) (And.intro (And.intro (And.intro (And.intro (@zTw) (@zUv)) (And.intro (@zTx) (And.intro (@zUw) (@zTy)))) (And.intro (And.intro (@ze_2) (And.intro (@ze_3) (@ze_4))) (And.intro (@yBz) (And.intro (@yAv) (@yAw))))) (And.intro (And.intro (And.intro (@yAx) (And.intro (@yAy) (@yAz))) (And.intro (@zZv) (And.intro (@zZw) (@zZx)))) (And.intro (And.intro (@zTz) (And.intro (@zSz) (@zRv))) (And.intro (@zRw) (And.intro (@zRx) (@zRy)))))))) (And.intro (And.intro (And.intro (And.intro (And.intro (And.intro (@zRz) (@zQv)) (And.intro (@zQw) (And.intro (@zQx) (@zQy)))) (And.intro (And.intro (@zQz) (And.intro (@zPv) (@zPw))) (And.intro (@zPx) (And.intro (@zPy) (@zPz))))) (And.intro (And.intro (And.intro (@zOv) (@zOw)) (And.intro (@zOx) (And.intro (@zOy) (@zOz)))) (And.intro (And.intro (@zNv) (And.intro (@zNw) (@zNx))) (And.intro (@zNy) (And.intro (@zNz) (@zMv)))))) (And.intro (And.intro (And.intro (And.intro (@zMw) (@yRw)) (And.intro (@yRx) (And.intro (@yRy) (@yRz)))) (And.intro (And.intro (@yQv) (And.intro (@yQw) (@yQx))) (And.intro (@yQy) (And.intro (@yQz) (@yPv))))) (And.intro (And.intro (And.intro (@yPw) (And.intro (@yPx) (@yPy))) (And.intro (@yPz) (And.intro (@yOv) (@yOw)))) (And.intro (And.intro (@yOx) (And.intro (@yOy) (@yOz))) (And.intro (@yNv) (And.intro (@yNw) (@yNx))))))) (And.intro (And.intro (And.intro (And.intro (And.intro (@yNy) (@yNz)) (And.intro (@yMv) (And.intro (@yMw) (@yMx)))) (And.intro (And.intro (@yMy) (And.intro (@yMz) (@yLv))) (And.intro (@yLw) (And.intro (@yLx) (@yLy))))) (And.intro (And.intro (And.intro (@yLz) (@yKv)) (And.intro (@yKw) (And.intro (@yKx) (@yKy)))) (And.intro (And.intro (@yKz) (And.intro (@yJv) (@yJw))) (And.intro (@yJx) (And.intro (@yJy) (@yJz)))))) (And.intro (And.intro (And.intro (And.intro (@yIv) (@yIw)) (And.intro (@yIx) (And.intro (@yIy) (@yIz)))) (And.intro (And.intro (@yHv) (And.intro (@zZy) (@zZz))) (And.intro (@yHw) (And.intro (@yHx) (@yHy))))) (And.intro (And.intro (And.intro (@yHz) (And.intro (@yGv) (@yGw))) (And.intro (@yGx) (And.intro (@yGy) (@yGz)))) (And.intro (And.intro (@yFv) (And.intro (@yFw) (@zYv))) (And.intro (@yFx) (And.intro (@yFy) (@zYw))))))))
theorem isInside (T:Te) (k:okT T) (lv:AV) (ls:List Ln) (hk:okLs ls) (h:H) (x:LinesR h lv ls):(om Try.prog KK).call (.fn 71 [.agg [ii T.sp,ii T.lo,ii T.we,ii T.al,ii T.f0,ii T.f1,ii T.t0,ii T.t1,ii T.s0,ii T.s1,ii T.o0,ii T.o1,ii T.b0,ii T.b1,ii T.r0,ii T.r1,lv]]) h = .ok (.bool (decide (rk T ls))) h:=by
  have wf:=x.wf
  obtain ⟨f1,f2⟩:=x.flat
  have hl : ∀ h',lenE Try.prog 74 lv h'=some (ii (ls.length:Int)):=fun h'=>x.sl.len un_74
  have hn4:=hk.n
  have ix0 : ∀ u v,indexE Try.prog 117 (.agg [ii u,ii v]) (.int .i64 0)=some (ii u):=fun u v=>xPx (i:=0) un_117 sz_2 ia_2 (by decide) rfl
  have ix1 : ∀ u v,indexE Try.prog 117 (.agg [ii u,ii v]) (.int .i64 1)=some (ii v):=fun u v=>xPx (i:=1) un_117 sz_2 ia_2 (by decide) rfl
  have c1 : ∀ u v l w,w≤h.clock+l.length→(om Try.prog KK).call (.fn 77 [.agg [ii u,ii v]]) (X h l w) = .ok (.agg [ii u,ii v]) (X h l w):=fun u v l w hw=>ends u v _ (wf.X hw)
  refine zWv (zLx (fn:=Try.f71) Try.func71 rfl rfl rfl rfl rfl ?_)
  simp only [zLz]
  (repeat' (first
  | (with_reducible first|refine zJw ?_|refine zHz ?_|refine zFz ?_|refine zEv ?_|refine zFy ?_|refine zJv ?_|refine zHy ?_|refine zCz ?_|refine zDw ?_|refine zCy ?_|refine zCv ?_|refine zEx ?_|refine zDz ?_|refine zCx ?_|refine zBy ?_|refine zEz ?_|refine zEy ?_|refine zAv ?_|refine zBz ?_)
  | refine zDy ?_|refine zEw rfl ?_|refine zJy ?_|refine zJx ?_
  | ((first|refine zGv rfl rfl rfl rfl rfl fun K_ hK_=>?_|refine zGw rfl rfl rfl rfl rfl fun K_ hK_=>?_);simp only [zAz,zDx,zGx,↓reduceIte,reduceCtorEq,Nat.reduceEqDiff,Bool.not_true,Bool.not_false];refine hK_ _ ?_;clear hK_ K_)
  | refine zDv (by decide) ?_
  | ((try first|refine zKy rfl rfl rfl ?_|refine zJz rfl rfl ?_|refine zKx rfl rfl rfl ?_|refine zIw rfl rfl ?_);(refine zIv fun Q_ hQ_=>?_;simp (disch:=first|omega|(simp only [List.length_cons,List.length_nil,List.length_append];omega)) only [bb,bp,zLz,↓reduceIte,reduceCtorEq,Nat.reduceEqDiff,Nat.reduceLT,Nat.reduceLeDiff,Nat.reduceAdd,Nat.reduceMul,Nat.reduceSub,Nat.reduceBEq,Int.reduceToNat,cond_true,cond_false,eq_self,beq_self_eq_true,f1,f2,hl,zFw wf,zGy wf,zBw wf,zFx wf,zAy wf,zAx,tEvD17,zIx,zIy,zIz,zHv,zFv,zAw wf];first|(refine zCw (Q:=Q_) (fun hp_=>?_) (fun hp_=>?_) <;> first|(exfalso;omega)|(refine hQ_ _ _ ?_;clear hQ_ Q_))|(refine zBx (Q:=Q_) (fun hp_=>?_) (fun hp_=>?_) <;> first|(exfalso;omega)|(refine hQ_ _ _ ?_;clear hQ_ Q_))|(refine hQ_ _ _ ?_;clear hQ_ Q_)|(refine zLv (reynolds T k lv ⟨f1,f2⟩ _ (wf.X (Nat.le_add_right _ _))) ?_;refine hQ_ _ _ ?_;clear hQ_ Q_)))
  | (refine zHx fun K_ hK_=>?_;simp (disch:=omega) only [zGz,zAz,zHw,↓reduceIte,reduceCtorEq,Nat.reduceEqDiff,Nat.reduceLT];refine hK_ _ ?_;clear hK_ K_)))
  refine yYv (fun (i:Nat) f d h'=>i≤ls.length∧(∀ j (hj:j<ls.length),j<i→inAll T ls[j].re)∧f 3 = .ptr (nx h 1) 0∧f 4 = .ptr (nx h 2) 0∧f 15=lv∧f 16=ii (ls.length:Int)∧f 17=ii (i:Int)∧d=[] ∧
      ∃ G,h'=X h (.cells (zBv [ii T.sp,ii T.lo,ii T.we,ii T.al,ii T.f0,ii T.f1,ii T.t0,ii T.t1,ii T.s0,ii T.s1,ii T.o0,ii T.o1,ii T.b0,ii T.b1,ii T.r0,ii T.r1,lv]) 76 :: .cells (zBv [ii (mo T T.t1),ii (mo T T.t0)]) 33 :: .cells (zBv [ii (sh T T.s1),ii (sh T T.s0)]) 33 :: G) h.clock) (fun i=>ls.length - i) ?_ (ls.length+1) 0 (by omega) ?_
  · rintro i f d h' ⟨hi,hall,g3,g4,g15,g16,g17,rfl,G,rfl⟩
    by_cases hlt:i<ls.length
    · obtain ⟨id,off,hix,hld,hln⟩:=x.at ik_74 hlt
      obtain ⟨⟨fa,fa'⟩,⟨fb,fb'⟩⟩:=hln.flats
      have kl:=hk.ok _ (List.getElem_mem hlt)
      have c2 : ∀ r l w,w≤h.clock+l.length→(om Try.prog KK).call (.fn 38 [.agg [ls[i].a,ls[i].b],ii r]) (X h l w) = .ok (.bool (decide (has ls[i].re r))) (X h l w):=fun r l w hw=>hasC _ _ _ _ r _ (hln.up _ _ hw) kl.n
      have hid:inAll T ls[i].re ↔ ((has ls[i].re (mo T T.t1)∧has ls[i].re (sh T T.s1))∧(has ls[i].re (mo T T.t0)∧has ls[i].re (sh T T.s0))):=Iff.rfl
      have hno : ¬ inAll T ls[i].re→decide (rk T ls)=false:=fun q=>decide_eq_false fun q2=>q (q2 _ (List.getElem_mem hlt))
      (repeat' (first
  | (with_reducible first|refine zJw ?_|refine zHz ?_|refine zFz ?_|refine zEv ?_|refine zFy ?_|refine zJv ?_|refine zHy ?_|refine zCz ?_|refine zDw ?_|refine zCy ?_|refine zCv ?_|refine zEx ?_|refine zDz ?_|refine zCx ?_|refine zBy ?_|refine zEz ?_|refine zEy ?_|refine zAv ?_|refine zBz ?_)
  | refine zDy ?_|refine zEw rfl ?_|refine zJy ?_|refine zJx ?_
  | ((first|refine zGv rfl rfl rfl rfl rfl fun K_ hK_=>?_|refine zGw rfl rfl rfl rfl rfl fun K_ hK_=>?_);simp only [zAz,zDx,zGx,↓reduceIte,reduceCtorEq,Nat.reduceEqDiff,Bool.not_true,Bool.not_false];refine hK_ _ ?_;clear hK_ K_)
  | refine zDv (by decide) ?_
  | ((try first|refine zKy rfl rfl rfl ?_|refine zJz rfl rfl ?_|refine zKx rfl rfl rfl ?_|refine zIw rfl rfl ?_);(refine zIv fun Q_ hQ_=>?_;simp (disch:=first|omega|(simp only [List.length_cons,List.length_nil,List.length_append];omega)) only [bb,bp,zLz,↓reduceIte,reduceCtorEq,Nat.reduceEqDiff,Nat.reduceLT,Nat.reduceLeDiff,Nat.reduceAdd,Nat.reduceMul,Nat.reduceSub,Nat.reduceBEq,Int.reduceToNat,cond_true,cond_false,eq_self,beq_self_eq_true,g3,g4,g15,g16,g17,hix,hld,fa,fb,fa',fb',c1,zFw wf,zGy wf,zBw wf,zFx wf,zAy wf,zAx,tEvD17,zIx,zIy,zIz,zHv,zFv,zAw wf];first|(refine zCw (Q:=Q_) (fun hp_=>?_) (fun hp_=>?_) <;> first|(exfalso;omega)|(refine hQ_ _ _ ?_;clear hQ_ Q_))|(refine zBx (Q:=Q_) (fun hp_=>?_) (fun hp_=>?_) <;> first|(exfalso;omega)|(refine hQ_ _ _ ?_;clear hQ_ Q_))|(refine hQ_ _ _ ?_;clear hQ_ Q_)))
  | (refine zHx fun K_ hK_=>?_;simp (disch:=omega) only [zGz,zAz,zHw,↓reduceIte,reduceCtorEq,Nat.reduceEqDiff,Nat.reduceLT];refine hK_ _ ?_;clear hK_ K_)))
      refine yYv (fun (j:Nat) f d h'=>j≤2∧(0<j→has ls[i].re (mo T T.t1)∧has ls[i].re (sh T T.s1))∧(1<j→has ls[i].re (mo T T.t0)∧has ls[i].re (sh T T.s0))∧f 3 = .ptr (nx h 1) 0∧f 4 = .ptr (nx h 2) 0∧f 6 = .ptr (nx h (G.length+1+1+1)) 0∧f 15=lv∧f 16=ii (ls.length:Int)∧f 17=ii (i:Int)∧f 22 = .agg [ii (mo T T.t1),ii (mo T T.t0)]∧f 23=ii (j:Int)∧d=[] ∧
        h'=X h (.cells (zBv [ii T.sp,ii T.lo,ii T.we,ii T.al,ii T.f0,ii T.f1,ii T.t0,ii T.t1,ii T.s0,ii T.s1,ii T.o0,ii T.o1,ii T.b0,ii T.b1,ii T.r0,ii T.r1,lv]) 76 :: .cells (zBv [ii (mo T T.t1),ii (mo T T.t0)]) 33 :: .cells (zBv [ii (sh T T.s1),ii (sh T T.s0)]) 33 :: (G++[.cells (zBv [ls[i].a,ls[i].b]) 67])) h.clock) (fun j=>2 - j) ?_ 3 0 (by omega) ?_
      · clear g3 g4 g15 g16 g17
        rintro j f d h' ⟨hj,q0,q1,g3,g4,g6,g15,g16,g17,g22,g23,rfl,rfl⟩
        rcases (by omega:j=0∨j=1∨j=2) with rfl|rfl|rfl
        · have g23':f 23 = .int .i64 0:=g23
          (repeat' (first
  | (with_reducible first|refine zJw ?_|refine zHz ?_|refine zFz ?_|refine zEv ?_|refine zFy ?_|refine zJv ?_|refine zHy ?_|refine zCz ?_|refine zDw ?_|refine zCy ?_|refine zCv ?_|refine zEx ?_|refine zDz ?_|refine zCx ?_|refine zBy ?_|refine zEz ?_|refine zEy ?_|refine zAv ?_|refine zBz ?_)
  | refine zDy ?_|refine zEw rfl ?_|refine zJy ?_|refine zJx ?_
  | ((first|refine zGv rfl rfl rfl rfl rfl fun K_ hK_=>?_|refine zGw rfl rfl rfl rfl rfl fun K_ hK_=>?_);simp only [zAz,zDx,zGx,↓reduceIte,reduceCtorEq,Nat.reduceEqDiff,Bool.not_true,Bool.not_false];refine hK_ _ ?_;clear hK_ K_)
  | refine zDv (by decide) ?_
  | ((try first|refine zKy rfl rfl rfl ?_|refine zJz rfl rfl ?_|refine zKx rfl rfl rfl ?_|refine zIw rfl rfl ?_);(refine zIv fun Q_ hQ_=>?_;simp (disch:=first|omega|(simp only [List.length_cons,List.length_nil,List.length_append];omega)) only [bb,bp,zLz,↓reduceIte,reduceCtorEq,Nat.reduceEqDiff,Nat.reduceLT,Nat.reduceLeDiff,Nat.reduceAdd,Nat.reduceMul,Nat.reduceSub,Nat.reduceBEq,Int.reduceToNat,cond_true,cond_false,eq_self,beq_self_eq_true,g3,g4,g6,g15,g16,g17,g22,g23',ix0,zFw wf,zGy wf,zBw wf,zFx wf,zAy wf,zAx,tEvD17,zIx,zIy,zIz,zHv,zFv,zAw wf];first|(refine zCw (Q:=Q_) (fun hp_=>?_) (fun hp_=>?_) <;> first|(exfalso;omega)|(refine hQ_ _ _ ?_;clear hQ_ Q_))|(refine zBx (Q:=Q_) (fun hp_=>?_) (fun hp_=>?_) <;> first|(exfalso;omega)|(refine hQ_ _ _ ?_;clear hQ_ Q_))|(refine hQ_ _ _ ?_;clear hQ_ Q_)))
  | (refine zHx fun K_ hK_=>?_;simp (disch:=omega) only [zGz,zAz,zHw,↓reduceIte,reduceCtorEq,Nat.reduceEqDiff,Nat.reduceLT];refine hK_ _ ?_;clear hK_ K_)))
          refine zLy [.full,.no,.full,.full,.full,.no,.no,.no,.no,.no,.full,.full,.full] (by kernel_rfl) ?_
          (repeat' (first
  | (with_reducible first|refine zJw ?_|refine zHz ?_|refine zFz ?_|refine zEv ?_|refine zFy ?_|refine zJv ?_|refine zHy ?_|refine zCz ?_|refine zDw ?_|refine zCy ?_|refine zCv ?_|refine zEx ?_|refine zDz ?_|refine zCx ?_|refine zBy ?_|refine zEz ?_|refine zEy ?_|refine zAv ?_|refine zBz ?_)
  | refine zDy ?_|refine zEw rfl ?_|refine zJy ?_|refine zJx ?_
  | ((first|refine zGv rfl rfl rfl rfl rfl fun K_ hK_=>?_|refine zGw rfl rfl rfl rfl rfl fun K_ hK_=>?_);simp only [zAz,zDx,zGx,↓reduceIte,reduceCtorEq,Nat.reduceEqDiff,Bool.not_true,Bool.not_false];refine hK_ _ ?_;clear hK_ K_)
  | refine zDv (by decide) ?_
  | ((try first|refine zKy rfl rfl rfl ?_|refine zJz rfl rfl ?_|refine zKx rfl rfl rfl ?_|refine zIw rfl rfl ?_);(refine zIv fun Q_ hQ_=>?_;simp (disch:=first|omega|(simp only [List.length_cons,List.length_nil,List.length_append];omega)) only [bb,bp,zLz,↓reduceIte,reduceCtorEq,Nat.reduceEqDiff,Nat.reduceLT,Nat.reduceLeDiff,Nat.reduceAdd,Nat.reduceMul,Nat.reduceSub,Nat.reduceBEq,Int.reduceToNat,cond_true,cond_false,eq_self,beq_self_eq_true,g3,g4,g6,g15,g16,g17,g22,g23',ix0,c1,c2,zFw wf,zGy wf,zBw wf,zFx wf,zAy wf,zAx,tEvD17,zIx,zIy,zIz,zHv,zFv,zAw wf];first|(refine zCw (Q:=Q_) (fun hp_=>?_) (fun hp_=>?_) <;> first|(exfalso;omega)|(refine hQ_ _ _ ?_;clear hQ_ Q_))|(refine zBx (Q:=Q_) (fun hp_=>?_) (fun hp_=>?_) <;> first|(exfalso;omega)|(refine hQ_ _ _ ?_;clear hQ_ Q_))|(refine hQ_ _ _ ?_;clear hQ_ Q_)))
  | (refine zHx fun K_ hK_=>?_;simp (disch:=omega) only [zGz,zAz,zHw,↓reduceIte,reduceCtorEq,Nat.reduceEqDiff,Nat.reduceLT];refine hK_ _ ?_;clear hK_ K_)))
          all_goals first
            | (refine zLw 1 (by omega) ⟨by omega,fun _=>⟨by assumption,by assumption⟩,fun h=>absurd h (by omega),by simp only [zAz,↓reduceIte,reduceCtorEq,Nat.reduceEqDiff];exact g3,by simp only [zAz,↓reduceIte,reduceCtorEq,Nat.reduceEqDiff];exact g4,by simp only [zAz,↓reduceIte,reduceCtorEq,Nat.reduceEqDiff];exact g6,by simp only [zAz,↓reduceIte,reduceCtorEq,Nat.reduceEqDiff];exact g15,by simp only [zAz,↓reduceIte,reduceCtorEq,Nat.reduceEqDiff];exact g16,by simp only [zAz,↓reduceIte,reduceCtorEq,Nat.reduceEqDiff];exact g17,by simp only [zAz,↓reduceIte,reduceCtorEq,Nat.reduceEqDiff];exact g22,by simp only [zAz,↓reduceIte,reduceCtorEq,Nat.reduceEqDiff];rfl,rfl,rfl⟩)
            | ((refine zKz _ _ rfl (ret1 (by decide)) ?_;simp only [zAz,↓reduceIte,reduceCtorEq,Nat.reduceEqDiff];refine zKw rfl (by omega) ?_)
               exact ⟨by rw [hno fun q=>by have:=hid.1 q;simp_all],rfl⟩)
        · have g23':f 23 = .int .i64 1:=g23
          (repeat' (first
  | (with_reducible first|refine zJw ?_|refine zHz ?_|refine zFz ?_|refine zEv ?_|refine zFy ?_|refine zJv ?_|refine zHy ?_|refine zCz ?_|refine zDw ?_|refine zCy ?_|refine zCv ?_|refine zEx ?_|refine zDz ?_|refine zCx ?_|refine zBy ?_|refine zEz ?_|refine zEy ?_|refine zAv ?_|refine zBz ?_)
  | refine zDy ?_|refine zEw rfl ?_|refine zJy ?_|refine zJx ?_
  | ((first|refine zGv rfl rfl rfl rfl rfl fun K_ hK_=>?_|refine zGw rfl rfl rfl rfl rfl fun K_ hK_=>?_);simp only [zAz,zDx,zGx,↓reduceIte,reduceCtorEq,Nat.reduceEqDiff,Bool.not_true,Bool.not_false];refine hK_ _ ?_;clear hK_ K_)
  | refine zDv (by decide) ?_
  | ((try first|refine zKy rfl rfl rfl ?_|refine zJz rfl rfl ?_|refine zKx rfl rfl rfl ?_|refine zIw rfl rfl ?_);(refine zIv fun Q_ hQ_=>?_;simp (disch:=first|omega|(simp only [List.length_cons,List.length_nil,List.length_append];omega)) only [bb,bp,zLz,↓reduceIte,reduceCtorEq,Nat.reduceEqDiff,Nat.reduceLT,Nat.reduceLeDiff,Nat.reduceAdd,Nat.reduceMul,Nat.reduceSub,Nat.reduceBEq,Int.reduceToNat,cond_true,cond_false,eq_self,beq_self_eq_true,g3,g4,g6,g15,g16,g17,g22,g23',ix1,zFw wf,zGy wf,zBw wf,zFx wf,zAy wf,zAx,tEvD17,zIx,zIy,zIz,zHv,zFv,zAw wf];first|(refine zCw (Q:=Q_) (fun hp_=>?_) (fun hp_=>?_) <;> first|(exfalso;omega)|(refine hQ_ _ _ ?_;clear hQ_ Q_))|(refine zBx (Q:=Q_) (fun hp_=>?_) (fun hp_=>?_) <;> first|(exfalso;omega)|(refine hQ_ _ _ ?_;clear hQ_ Q_))|(refine hQ_ _ _ ?_;clear hQ_ Q_)))
  | (refine zHx fun K_ hK_=>?_;simp (disch:=omega) only [zGz,zAz,zHw,↓reduceIte,reduceCtorEq,Nat.reduceEqDiff,Nat.reduceLT];refine hK_ _ ?_;clear hK_ K_)))
          refine zLy [.full,.no,.full,.full,.full,.no,.no,.no,.no,.no,.full,.full,.full] (by kernel_rfl) ?_
          (repeat' (first
  | (with_reducible first|refine zJw ?_|refine zHz ?_|refine zFz ?_|refine zEv ?_|refine zFy ?_|refine zJv ?_|refine zHy ?_|refine zCz ?_|refine zDw ?_|refine zCy ?_|refine zCv ?_|refine zEx ?_|refine zDz ?_|refine zCx ?_|refine zBy ?_|refine zEz ?_|refine zEy ?_|refine zAv ?_|refine zBz ?_)
  | refine zDy ?_|refine zEw rfl ?_|refine zJy ?_|refine zJx ?_
  | ((first|refine zGv rfl rfl rfl rfl rfl fun K_ hK_=>?_|refine zGw rfl rfl rfl rfl rfl fun K_ hK_=>?_);simp only [zAz,zDx,zGx,↓reduceIte,reduceCtorEq,Nat.reduceEqDiff,Bool.not_true,Bool.not_false];refine hK_ _ ?_;clear hK_ K_)
  | refine zDv (by decide) ?_
  | ((try first|refine zKy rfl rfl rfl ?_|refine zJz rfl rfl ?_|refine zKx rfl rfl rfl ?_|refine zIw rfl rfl ?_);(refine zIv fun Q_ hQ_=>?_;simp (disch:=first|omega|(simp only [List.length_cons,List.length_nil,List.length_append];omega)) only [bb,bp,zLz,↓reduceIte,reduceCtorEq,Nat.reduceEqDiff,Nat.reduceLT,Nat.reduceLeDiff,Nat.reduceAdd,Nat.reduceMul,Nat.reduceSub,Nat.reduceBEq,Int.reduceToNat,cond_true,cond_false,eq_self,beq_self_eq_true,g3,g4,g6,g15,g16,g17,g22,g23',ix1,c1,c2,zFw wf,zGy wf,zBw wf,zFx wf,zAy wf,zAx,tEvD17,zIx,zIy,zIz,zHv,zFv,zAw wf];first|(refine zCw (Q:=Q_) (fun hp_=>?_) (fun hp_=>?_) <;> first|(exfalso;omega)|(refine hQ_ _ _ ?_;clear hQ_ Q_))|(refine zBx (Q:=Q_) (fun hp_=>?_) (fun hp_=>?_) <;> first|(exfalso;omega)|(refine hQ_ _ _ ?_;clear hQ_ Q_))|(refine hQ_ _ _ ?_;clear hQ_ Q_)))
  | (refine zHx fun K_ hK_=>?_;simp (disch:=omega) only [zGz,zAz,zHw,↓reduceIte,reduceCtorEq,Nat.reduceEqDiff,Nat.reduceLT];refine hK_ _ ?_;clear hK_ K_)))
          all_goals first
            | (refine zLw 2 (by omega) ⟨by omega,fun _=>q0 (by omega),fun _=>⟨by assumption,by assumption⟩,by simp only [zAz,↓reduceIte,reduceCtorEq,Nat.reduceEqDiff];exact g3,by simp only [zAz,↓reduceIte,reduceCtorEq,Nat.reduceEqDiff];exact g4,by simp only [zAz,↓reduceIte,reduceCtorEq,Nat.reduceEqDiff];exact g6,by simp only [zAz,↓reduceIte,reduceCtorEq,Nat.reduceEqDiff];exact g15,by simp only [zAz,↓reduceIte,reduceCtorEq,Nat.reduceEqDiff];exact g16,by simp only [zAz,↓reduceIte,reduceCtorEq,Nat.reduceEqDiff];exact g17,by simp only [zAz,↓reduceIte,reduceCtorEq,Nat.reduceEqDiff];exact g22,by simp only [zAz,↓reduceIte,reduceCtorEq,Nat.reduceEqDiff];rfl,rfl,rfl⟩)
            | ((refine zKz _ _ rfl (ret1 (by decide)) ?_;simp only [zAz,↓reduceIte,reduceCtorEq,Nat.reduceEqDiff];refine zKw rfl (by omega) ?_)
               exact ⟨by rw [hno fun q=>by have:=hid.1 q;simp_all],rfl⟩)
        · have g23':f 23 = .int .i64 2:=g23
          (repeat' (first
  | (with_reducible first|refine zJw ?_|refine zHz ?_|refine zFz ?_|refine zEv ?_|refine zFy ?_|refine zJv ?_|refine zHy ?_|refine zCz ?_|refine zDw ?_|refine zCy ?_|refine zCv ?_|refine zEx ?_|refine zDz ?_|refine zCx ?_|refine zBy ?_|refine zEz ?_|refine zEy ?_|refine zAv ?_|refine zBz ?_)
  | refine zDy ?_|refine zEw rfl ?_|refine zJy ?_|refine zJx ?_
  | ((first|refine zGv rfl rfl rfl rfl rfl fun K_ hK_=>?_|refine zGw rfl rfl rfl rfl rfl fun K_ hK_=>?_);simp only [zAz,zDx,zGx,↓reduceIte,reduceCtorEq,Nat.reduceEqDiff,Bool.not_true,Bool.not_false];refine hK_ _ ?_;clear hK_ K_)
  | refine zDv (by decide) ?_
  | ((try first|refine zKy rfl rfl rfl ?_|refine zJz rfl rfl ?_|refine zKx rfl rfl rfl ?_|refine zIw rfl rfl ?_);(refine zIv fun Q_ hQ_=>?_;simp (disch:=first|omega|(simp only [List.length_cons,List.length_nil,List.length_append];omega)) only [bb,bp,zLz,↓reduceIte,reduceCtorEq,Nat.reduceEqDiff,Nat.reduceLT,Nat.reduceLeDiff,Nat.reduceAdd,Nat.reduceMul,Nat.reduceSub,Nat.reduceBEq,Int.reduceToNat,cond_true,cond_false,eq_self,beq_self_eq_true,g3,g4,g6,g15,g16,g17,g22,g23',zFw wf,zGy wf,zBw wf,zFx wf,zAy wf,zAx,tEvD17,zIx,zIy,zIz,zHv,zFv,zAw wf];first|(refine zCw (Q:=Q_) (fun hp_=>?_) (fun hp_=>?_) <;> first|(exfalso;omega)|(refine hQ_ _ _ ?_;clear hQ_ Q_))|(refine zBx (Q:=Q_) (fun hp_=>?_) (fun hp_=>?_) <;> first|(exfalso;omega)|(refine hQ_ _ _ ?_;clear hQ_ Q_))|(refine hQ_ _ _ ?_;clear hQ_ Q_)))
  | (refine zHx fun K_ hK_=>?_;simp (disch:=omega) only [zGz,zAz,zHw,↓reduceIte,reduceCtorEq,Nat.reduceEqDiff,Nat.reduceLT];refine hK_ _ ?_;clear hK_ K_)))
          refine zLw (i+1) (by omega) ⟨hlt,fun j hj hji=>?_,by simp only [zAz,↓reduceIte,reduceCtorEq,Nat.reduceEqDiff];exact g3,by simp only [zAz,↓reduceIte,reduceCtorEq,Nat.reduceEqDiff];exact g4,by simp only [zAz,↓reduceIte,reduceCtorEq,Nat.reduceEqDiff];exact g15,by simp only [zAz,↓reduceIte,reduceCtorEq,Nat.reduceEqDiff];exact g16,by simp only [zAz,↓reduceIte,reduceCtorEq,Nat.reduceEqDiff];rfl,rfl,_,rfl⟩
          by_cases hje:j=i
          · subst hje;exact hid.2 ⟨q0 (by omega),q1 (by omega)⟩
          · exact hall j hj (by omega)
      · exact ⟨by omega,fun h=>absurd h (by omega),fun h=>absurd h (by omega),by simp only [zAz,↓reduceIte,reduceCtorEq,Nat.reduceEqDiff];exact g3,by simp only [zAz,↓reduceIte,reduceCtorEq,Nat.reduceEqDiff];exact g4,by simp only [zAz,↓reduceIte,reduceCtorEq,Nat.reduceEqDiff],by simp only [zAz,↓reduceIte,reduceCtorEq,Nat.reduceEqDiff];exact g15,by simp only [zAz,↓reduceIte,reduceCtorEq,Nat.reduceEqDiff];exact g16,by simp only [zAz,↓reduceIte,reduceCtorEq,Nat.reduceEqDiff];exact g17,by simp only [zAz,↓reduceIte,reduceCtorEq,Nat.reduceEqDiff],by simp only [zAz,↓reduceIte,reduceCtorEq,Nat.reduceEqDiff];rfl,rfl,rfl⟩
    · have hie:i=ls.length:=by omega
      have hr:rk T ls:=fun l hl2=>by
        obtain ⟨j,hj,rfl⟩:=List.getElem_of_mem hl2
        exact hall j hj (by omega)
      (repeat' (first
  | (with_reducible first|refine zJw ?_|refine zHz ?_|refine zFz ?_|refine zEv ?_|refine zFy ?_|refine zJv ?_|refine zHy ?_|refine zCz ?_|refine zDw ?_|refine zCy ?_|refine zCv ?_|refine zEx ?_|refine zDz ?_|refine zCx ?_|refine zBy ?_|refine zEz ?_|refine zEy ?_|refine zAv ?_|refine zBz ?_)
  | refine zDy ?_|refine zEw rfl ?_|refine zJy ?_|refine zJx ?_
  | ((first|refine zGv rfl rfl rfl rfl rfl fun K_ hK_=>?_|refine zGw rfl rfl rfl rfl rfl fun K_ hK_=>?_);simp only [zAz,zDx,zGx,↓reduceIte,reduceCtorEq,Nat.reduceEqDiff,Bool.not_true,Bool.not_false];refine hK_ _ ?_;clear hK_ K_)
  | refine zDv (by decide) ?_
  | ((try first|refine zKy rfl rfl rfl ?_|refine zJz rfl rfl ?_|refine zKx rfl rfl rfl ?_|refine zIw rfl rfl ?_);(refine zIv fun Q_ hQ_=>?_;simp (disch:=first|omega|(simp only [List.length_cons,List.length_nil,List.length_append];omega)) only [bb,bp,zLz,↓reduceIte,reduceCtorEq,Nat.reduceEqDiff,Nat.reduceLT,Nat.reduceLeDiff,Nat.reduceAdd,Nat.reduceMul,Nat.reduceSub,Nat.reduceBEq,Int.reduceToNat,cond_true,cond_false,eq_self,beq_self_eq_true,g3,g4,g15,g16,g17,zFw wf,zGy wf,zBw wf,zFx wf,zAy wf,zAx,tEvD17,zIx,zIy,zIz,zHv,zFv,zAw wf];first|(refine zCw (Q:=Q_) (fun hp_=>?_) (fun hp_=>?_) <;> first|(exfalso;omega)|(refine hQ_ _ _ ?_;clear hQ_ Q_))|(refine zBx (Q:=Q_) (fun hp_=>?_) (fun hp_=>?_) <;> first|(exfalso;omega)|(refine hQ_ _ _ ?_;clear hQ_ Q_))|(refine hQ_ _ _ ?_;clear hQ_ Q_)))
  | (refine zHx fun K_ hK_=>?_;simp (disch:=omega) only [zGz,zAz,zHw,↓reduceIte,reduceCtorEq,Nat.reduceEqDiff,Nat.reduceLT];refine hK_ _ ?_;clear hK_ K_)))
      (refine zKz _ _ rfl (ret1 (by decide)) ?_;simp only [zAz,↓reduceIte,reduceCtorEq,Nat.reduceEqDiff];refine zKw rfl (by omega) ?_)
      exact ⟨by rw [decide_eq_true hr],rfl⟩
  · exact ⟨Nat.zero_le _,fun j _ hj=>absurd hj (Nat.not_lt_zero j),by simp only [zAz,↓reduceIte,reduceCtorEq,Nat.reduceEqDiff],by simp only [zAz,↓reduceIte,reduceCtorEq,Nat.reduceEqDiff],by simp only [zAz,↓reduceIte,reduceCtorEq,Nat.reduceEqDiff],by simp only [zAz,↓reduceIte,reduceCtorEq,Nat.reduceEqDiff],by simp only [zAz,↓reduceIte,reduceCtorEq,Nat.reduceEqDiff];rfl,rfl,[],rfl⟩

theorem LinesR.new {h:H} {s:AV} {ls:List Ln} (x:LinesR h s ls) {L:List AO} {w k e:Nat} (hw:w≤h.clock+L.length) (hk:L[k]? = some (.cells (zBv (ls.flatMap lnC)) e)):LinesR (X h L w) (.sl (nx h k) 0 ls.length (some ls.length) 2) ls:=
  ⟨x.wf.X hw,Sl.new x.wf (by rw [flat_length xKz]) hk,fun l hl=>(x.ln l hl).up L w hw⟩
def reckErr (T:Te) (ls:List Ln):Int:=if ¬ okT T then 2 else if linesErr ls≠0 then linesErr ls else if rk T ls then 0 else 19
theorem reck1 {T:Te} {ls:List Ln} (k : ¬ okT T):reckErr T ls=2:=if_pos k
theorem reck2 {T:Te} {ls:List Ln} (k:okT T) (h : ¬ linesErr ls=0):reckErr T ls=linesErr ls:=by simp [reckErr,k,h]
theorem reck3 {T:Te} {ls:List Ln} (k:okT T) (h:linesErr ls=0) (q : ¬ rk T ls):reckErr T ls=19:=by simp [reckErr,k,h,q]
theorem reck4 {T:Te} {ls:List Ln} (k:okT T) (h:linesErr ls=0) (q:rk T ls):reckErr T ls=0:=by simp [reckErr,k,h,q]
def z17 :AV:=.agg [ii 0,ii 0,ii 0,ii 0,ii 0,ii 0,ii 0,ii 0,ii 0,ii 0,ii 0,ii 0,ii 0,ii 0,ii 0,ii 0,.nils]
theorem reckonedE (T:Te) (s:AV) (ls:List Ln) (hne : ¬ reckErr T ls=0) (h:H) (x:LinesR h s ls):(om Try.prog KK).call (.fn 54 [.agg [ii T.sp,ii T.lo,ii T.we,ii T.al,ii T.f0,ii T.f1,ii T.t0,ii T.t1,ii T.s0,ii T.s1,ii T.o0,ii T.o1,ii T.b0,ii T.b1,ii T.r0,ii T.r1],s]) h = .ok (.tup [z17,ii (reckErr T ls)]) h:=by
  have wf:=x.wf
  obtain ⟨f1,f2⟩:=x.flat
  refine zWv (zLx (fn:=Try.f54) Try.func54 rfl rfl rfl rfl rfl ?_)
  simp only [zLz]
  by_cases k:okT T
  · have e0:=yYy k
    by_cases hz:linesErr ls=0
    · have hk:=yXv.1 hz
      by_cases q:rk T ls
      · exact absurd (reck4 k hz q) hne
      · rw [reck3 k hz q]
        have c1 : ∀ l w,w≤h.clock+l.length→(om Try.prog KK).call (.fn 70 [s]) (X h l w) = .ok (.sl (nx h l.length) 0 ls.length (some ls.length) 2) (X h (l++(.cells (zBv (ls.flatMap lnC)) 67 :: ls.map lnO)) w):=fun l w hw=>curvesOf s ls hk.n h x l w hw
        (repeat' (first
  | (with_reducible first|refine zJw ?_|refine zHz ?_|refine zFz ?_|refine zEv ?_|refine zFy ?_|refine zJv ?_|refine zHy ?_|refine zCz ?_|refine zDw ?_|refine zCy ?_|refine zCv ?_|refine zEx ?_|refine zDz ?_|refine zCx ?_|refine zBy ?_|refine zEz ?_|refine zEy ?_|refine zAv ?_|refine zBz ?_)
  | refine zDy ?_|refine zEw rfl ?_|refine zJy ?_|refine zJx ?_
  | ((first|refine zGv rfl rfl rfl rfl rfl fun K_ hK_=>?_|refine zGw rfl rfl rfl rfl rfl fun K_ hK_=>?_);simp only [zAz,zDx,zGx,↓reduceIte,reduceCtorEq,Nat.reduceEqDiff,Bool.not_true,Bool.not_false];refine hK_ _ ?_;clear hK_ K_)
  | refine zDv (by decide) ?_
  | ((try first|refine zKy rfl rfl rfl ?_|refine zJz rfl rfl ?_|refine zKx rfl rfl rfl ?_|refine zIw rfl rfl ?_);(refine zIv fun Q_ hQ_=>?_;simp (disch:=first|omega|(simp only [List.length_cons,List.length_nil,List.length_append];omega)) only [bb,bp,zLz,↓reduceIte,reduceCtorEq,Nat.reduceEqDiff,Nat.reduceLT,Nat.reduceLeDiff,Nat.reduceAdd,Nat.reduceMul,Nat.reduceSub,Nat.reduceBEq,Int.reduceToNat,cond_true,cond_false,eq_self,beq_self_eq_true,f1,f2,zFw wf,zGy wf,zBw wf,zFx wf,zAy wf,zAx,tEvD17,zIx,zIy,zIz,zHv,zFv,zAw wf];first|(refine zCw (Q:=Q_) (fun hp_=>?_) (fun hp_=>?_) <;> first|(exfalso;omega)|(refine hQ_ _ _ ?_;clear hQ_ Q_))|(refine zBx (Q:=Q_) (fun hp_=>?_) (fun hp_=>?_) <;> first|(exfalso;omega)|(refine hQ_ _ _ ?_;clear hQ_ Q_))|(refine hQ_ _ _ ?_;clear hQ_ Q_)|(refine zLv ((CheckTest T _ (wf.X (Nat.le_add_right _ _))).trans (by rw [e0])) ?_;refine hQ_ _ _ ?_;clear hQ_ Q_)|(refine zLv ((checkLines s ls _ (x.up _ _ (by simp only [List.length_append,List.length_cons,List.length_nil];omega))).trans (by rw [hz])) ?_;refine hQ_ _ _ ?_;clear hQ_ Q_)))
  | (refine zHx fun K_ hK_=>?_;simp (disch:=omega) only [zGz,zAz,zHw,↓reduceIte,reduceCtorEq,Nat.reduceEqDiff,Nat.reduceLT];refine hK_ _ ?_;clear hK_ K_)))
        refine zLy [.no,.no,.no,.no,.no,.full] (by kernel_rfl) ?_
        (repeat' (first
  | (with_reducible first|refine zJw ?_|refine zHz ?_|refine zFz ?_|refine zEv ?_|refine zFy ?_|refine zJv ?_|refine zHy ?_|refine zCz ?_|refine zDw ?_|refine zCy ?_|refine zCv ?_|refine zEx ?_|refine zDz ?_|refine zCx ?_|refine zBy ?_|refine zEz ?_|refine zEy ?_|refine zAv ?_|refine zBz ?_)
  | refine zDy ?_|refine zEw rfl ?_|refine zJy ?_|refine zJx ?_
  | ((first|refine zGv rfl rfl rfl rfl rfl fun K_ hK_=>?_|refine zGw rfl rfl rfl rfl rfl fun K_ hK_=>?_);simp only [zAz,zDx,zGx,↓reduceIte,reduceCtorEq,Nat.reduceEqDiff,Bool.not_true,Bool.not_false];refine hK_ _ ?_;clear hK_ K_)
  | refine zDv (by decide) ?_
  | ((try first|refine zKy rfl rfl rfl ?_|refine zJz rfl rfl ?_|refine zKx rfl rfl rfl ?_|refine zIw rfl rfl ?_);(refine zIv fun Q_ hQ_=>?_;simp (disch:=first|omega|(simp only [List.length_cons,List.length_nil,List.length_append];omega)) only [bb,bp,zLz,↓reduceIte,reduceCtorEq,Nat.reduceEqDiff,Nat.reduceLT,Nat.reduceLeDiff,Nat.reduceAdd,Nat.reduceMul,Nat.reduceSub,Nat.reduceBEq,Int.reduceToNat,cond_true,cond_false,eq_self,beq_self_eq_true,f1,f2,c1,zFw wf,zGy wf,zBw wf,zFx wf,zAy wf,zAx,tEvD17,zIx,zIy,zIz,zHv,zFv,zAw wf];first|(refine zCw (Q:=Q_) (fun hp_=>?_) (fun hp_=>?_) <;> first|(exfalso;omega)|(refine hQ_ _ _ ?_;clear hQ_ Q_))|(refine zBx (Q:=Q_) (fun hp_=>?_) (fun hp_=>?_) <;> first|(exfalso;omega)|(refine hQ_ _ _ ?_;clear hQ_ Q_))|(refine hQ_ _ _ ?_;clear hQ_ Q_)))
  | (refine zHx fun K_ hK_=>?_;simp (disch:=omega) only [zGz,zAz,zHw,↓reduceIte,reduceCtorEq,Nat.reduceEqDiff,Nat.reduceLT];refine hK_ _ ?_;clear hK_ K_)))
        (repeat' (first
  | (with_reducible first|refine zJw ?_|refine zHz ?_|refine zFz ?_|refine zEv ?_|refine zFy ?_|refine zJv ?_|refine zHy ?_|refine zCz ?_|refine zDw ?_|refine zCy ?_|refine zCv ?_|refine zEx ?_|refine zDz ?_|refine zCx ?_|refine zBy ?_|refine zEz ?_|refine zEy ?_|refine zAv ?_|refine zBz ?_)
  | refine zDy ?_|refine zEw rfl ?_|refine zJy ?_|refine zJx ?_
  | ((first|refine zGv rfl rfl rfl rfl rfl fun K_ hK_=>?_|refine zGw rfl rfl rfl rfl rfl fun K_ hK_=>?_);simp only [zAz,zDx,zGx,↓reduceIte,reduceCtorEq,Nat.reduceEqDiff,Bool.not_true,Bool.not_false];refine hK_ _ ?_;clear hK_ K_)
  | refine zDv (by decide) ?_
  | ((try first|refine zKy rfl rfl rfl ?_|refine zJz rfl rfl ?_|refine zKx rfl rfl rfl ?_|refine zIw rfl rfl ?_);(refine zIv fun Q_ hQ_=>?_;simp (disch:=first|omega|(simp only [List.length_cons,List.length_nil,List.length_append];omega)) only [bb,bp,zLz,↓reduceIte,reduceCtorEq,Nat.reduceEqDiff,Nat.reduceLT,Nat.reduceLeDiff,Nat.reduceAdd,Nat.reduceMul,Nat.reduceSub,Nat.reduceBEq,Int.reduceToNat,cond_true,cond_false,eq_self,beq_self_eq_true,f1,f2,zFw wf,zGy wf,zBw wf,zFx wf,zAy wf,zAx,tEvD17,zIx,zIy,zIz,zHv,zFv,zAw wf];first|(refine zCw (Q:=Q_) (fun hp_=>?_) (fun hp_=>?_) <;> first|(exfalso;omega)|(refine hQ_ _ _ ?_;clear hQ_ Q_))|(refine zBx (Q:=Q_) (fun hp_=>?_) (fun hp_=>?_) <;> first|(exfalso;omega)|(refine hQ_ _ _ ?_;clear hQ_ Q_))|(refine hQ_ _ _ ?_;clear hQ_ Q_)|(refine zLv ((isInside T k _ ls hk _ (x.new (k:=2) (by simp only [List.length_append,List.length_cons,List.length_nil];omega) rfl)).trans (by rw [decide_eq_false q])) ?_;refine hQ_ _ _ ?_;clear hQ_ Q_)))
  | (refine zHx fun K_ hK_=>?_;simp (disch:=omega) only [zGz,zAz,zHw,↓reduceIte,reduceCtorEq,Nat.reduceEqDiff,Nat.reduceLT];refine hK_ _ ?_;clear hK_ K_)))
        refine zKz _ _ rfl (retc1 (by decide) (by decide) (by simp (disch:=first|omega|(simp only [List.length_cons,List.length_nil,List.length_append];omega)) only [bb,bp,zLz,↓reduceIte,reduceCtorEq,Nat.reduceEqDiff,Nat.reduceLT,Nat.reduceLeDiff,Nat.reduceAdd,Nat.reduceMul,Nat.reduceSub,Nat.reduceBEq,Int.reduceToNat,cond_true,cond_false,eq_self,beq_self_eq_true,zBw wf,tEvD17,zIx,zIy,zIz,zHv,zFv,zAw wf];rfl)) ?_
        refine zKw rfl (by omega) ?_
        exact ⟨rfl,rfl⟩
    · rw [reck2 k hz]
      (repeat' (first
  | (with_reducible first|refine zJw ?_|refine zHz ?_|refine zFz ?_|refine zEv ?_|refine zFy ?_|refine zJv ?_|refine zHy ?_|refine zCz ?_|refine zDw ?_|refine zCy ?_|refine zCv ?_|refine zEx ?_|refine zDz ?_|refine zCx ?_|refine zBy ?_|refine zEz ?_|refine zEy ?_|refine zAv ?_|refine zBz ?_)
  | refine zDy ?_|refine zEw rfl ?_|refine zJy ?_|refine zJx ?_
  | ((first|refine zGv rfl rfl rfl rfl rfl fun K_ hK_=>?_|refine zGw rfl rfl rfl rfl rfl fun K_ hK_=>?_);simp only [zAz,zDx,zGx,↓reduceIte,reduceCtorEq,Nat.reduceEqDiff,Bool.not_true,Bool.not_false];refine hK_ _ ?_;clear hK_ K_)
  | refine zDv (by decide) ?_
  | ((try first|refine zKy rfl rfl rfl ?_|refine zJz rfl rfl ?_|refine zKx rfl rfl rfl ?_|refine zIw rfl rfl ?_);(refine zIv fun Q_ hQ_=>?_;simp (disch:=first|omega|(simp only [List.length_cons,List.length_nil,List.length_append];omega)) only [bb,bp,zLz,↓reduceIte,reduceCtorEq,Nat.reduceEqDiff,Nat.reduceLT,Nat.reduceLeDiff,Nat.reduceAdd,Nat.reduceMul,Nat.reduceSub,Nat.reduceBEq,Int.reduceToNat,cond_true,cond_false,eq_self,beq_self_eq_true,f1,f2,zFw wf,zGy wf,zBw wf,zFx wf,zAy wf,zAx,tEvD17,zIx,zIy,zIz,zHv,zFv,zAw wf];first|(refine zCw (Q:=Q_) (fun hp_=>?_) (fun hp_=>?_) <;> first|(exfalso;omega)|(refine hQ_ _ _ ?_;clear hQ_ Q_))|(refine zBx (Q:=Q_) (fun hp_=>?_) (fun hp_=>?_) <;> first|(exfalso;omega)|(refine hQ_ _ _ ?_;clear hQ_ Q_))|(refine hQ_ _ _ ?_;clear hQ_ Q_)|(refine zLv ((CheckTest T _ (wf.X (Nat.le_add_right _ _))).trans (by rw [e0])) ?_;refine hQ_ _ _ ?_;clear hQ_ Q_)|(refine zLv (checkLines s ls _ (x.up _ _ (by simp only [List.length_append,List.length_cons,List.length_nil];omega))) ?_;refine hQ_ _ _ ?_;clear hQ_ Q_)))
  | (refine zHx fun K_ hK_=>?_;simp (disch:=omega) only [zGz,zAz,zHw,↓reduceIte,reduceCtorEq,Nat.reduceEqDiff,Nat.reduceLT];refine hK_ _ ?_;clear hK_ K_)))
      refine zKz _ _ rfl (retc1 (by decide) (by decide) (by simp (disch:=first|omega|(simp only [List.length_cons,List.length_nil,List.length_append];omega)) only [bb,bp,zLz,↓reduceIte,reduceCtorEq,Nat.reduceEqDiff,Nat.reduceLT,Nat.reduceLeDiff,Nat.reduceAdd,Nat.reduceMul,Nat.reduceSub,Nat.reduceBEq,Int.reduceToNat,cond_true,cond_false,eq_self,beq_self_eq_true,zBw wf,tEvD17,zIx,zIy,zIz,zHv,zFv,zAw wf];rfl)) ?_
      refine zKw rfl (by omega) ?_
      exact ⟨rfl,rfl⟩
  · have e0:=yZw k
    rw [reck1 k]
    (repeat' (first
  | (with_reducible first|refine zJw ?_|refine zHz ?_|refine zFz ?_|refine zEv ?_|refine zFy ?_|refine zJv ?_|refine zHy ?_|refine zCz ?_|refine zDw ?_|refine zCy ?_|refine zCv ?_|refine zEx ?_|refine zDz ?_|refine zCx ?_|refine zBy ?_|refine zEz ?_|refine zEy ?_|refine zAv ?_|refine zBz ?_)
  | refine zDy ?_|refine zEw rfl ?_|refine zJy ?_|refine zJx ?_
  | ((first|refine zGv rfl rfl rfl rfl rfl fun K_ hK_=>?_|refine zGw rfl rfl rfl rfl rfl fun K_ hK_=>?_);simp only [zAz,zDx,zGx,↓reduceIte,reduceCtorEq,Nat.reduceEqDiff,Bool.not_true,Bool.not_false];refine hK_ _ ?_;clear hK_ K_)
  | refine zDv (by decide) ?_
  | ((try first|refine zKy rfl rfl rfl ?_|refine zJz rfl rfl ?_|refine zKx rfl rfl rfl ?_|refine zIw rfl rfl ?_);(refine zIv fun Q_ hQ_=>?_;simp (disch:=first|omega|(simp only [List.length_cons,List.length_nil,List.length_append];omega)) only [bb,bp,zLz,↓reduceIte,reduceCtorEq,Nat.reduceEqDiff,Nat.reduceLT,Nat.reduceLeDiff,Nat.reduceAdd,Nat.reduceMul,Nat.reduceSub,Nat.reduceBEq,Int.reduceToNat,cond_true,cond_false,eq_self,beq_self_eq_true,f1,f2,zFw wf,zGy wf,zBw wf,zFx wf,zAy wf,zAx,tEvD17,zIx,zIy,zIz,zHv,zFv,zAw wf];first|(refine zCw (Q:=Q_) (fun hp_=>?_) (fun hp_=>?_) <;> first|(exfalso;omega)|(refine hQ_ _ _ ?_;clear hQ_ Q_))|(refine zBx (Q:=Q_) (fun hp_=>?_) (fun hp_=>?_) <;> first|(exfalso;omega)|(refine hQ_ _ _ ?_;clear hQ_ Q_))|(refine hQ_ _ _ ?_;clear hQ_ Q_)|(refine zLv ((CheckTest T _ (wf.X (Nat.le_add_right _ _))).trans (by rw [e0])) ?_;refine hQ_ _ _ ?_;clear hQ_ Q_)))
  | (refine zHx fun K_ hK_=>?_;simp (disch:=omega) only [zGz,zAz,zHw,↓reduceIte,reduceCtorEq,Nat.reduceEqDiff,Nat.reduceLT];refine hK_ _ ?_;clear hK_ K_)))
    refine zKz _ _ rfl (retc1 (by decide) (by decide) (by simp (disch:=first|omega|(simp only [List.length_cons,List.length_nil,List.length_append];omega)) only [bb,bp,zLz,↓reduceIte,reduceCtorEq,Nat.reduceEqDiff,Nat.reduceLT,Nat.reduceLeDiff,Nat.reduceAdd,Nat.reduceMul,Nat.reduceSub,Nat.reduceBEq,Int.reduceToNat,cond_true,cond_false,eq_self,beq_self_eq_true,zBw wf,tEvD17,zIx,zIy,zIz,zHv,zFv,zAw wf];rfl)) ?_
    refine zKw rfl (by omega) ?_
    exact ⟨rfl,rfl⟩

theorem reckoned (T:Te) (s:AV) (ls:List Ln) (k:okT T) (hk:okLs ls) (q:rk T ls) (h:H) (x:LinesR h s ls) (L:List AO) (w:Nat) (hw:w≤h.clock+L.length) :
    ∃ M lv,(om Try.prog KK).call (.fn 54 [.agg [ii T.sp,ii T.lo,ii T.we,ii T.al,ii T.f0,ii T.f1,ii T.t0,ii T.t1,ii T.s0,ii T.s1,ii T.o0,ii T.o1,ii T.b0,ii T.b1,ii T.r0,ii T.r1],s]) (X h L w) = .ok (.tup [.agg [ii T.sp,ii T.lo,ii T.we,ii T.al,ii T.f0,ii T.f1,ii T.t0,ii T.t1,ii T.s0,ii T.s1,ii T.o0,ii T.o1,ii T.b0,ii T.b1,ii T.r0,ii T.r1,lv],ii 0]) (X h (L++M) w)∧CapU 2 lv ∧ ∀ R w',w'≤h.clock+(L.length+(M.length+R.length))→LinesR (X h (L++(M++R)) w') lv ls:=by
  have key : ∀ hb,LinesR hb s ls → ∃ M,(om Try.prog KK).call (.fn 54 [.agg [ii T.sp,ii T.lo,ii T.we,ii T.al,ii T.f0,ii T.f1,ii T.t0,ii T.t1,ii T.s0,ii T.s1,ii T.o0,ii T.o1,ii T.b0,ii T.b1,ii T.r0,ii T.r1],s]) hb = .ok (.tup [.agg [ii T.sp,ii T.lo,ii T.we,ii T.al,ii T.f0,ii T.f1,ii T.t0,ii T.t1,ii T.s0,ii T.s1,ii T.o0,ii T.o1,ii T.b0,ii T.b1,ii T.r0,ii T.r1,.sl (nx hb 2) 0 ls.length (some ls.length) 2],ii 0]) (X hb M hb.w)∧M[2]? = some (.cells (zBv (ls.flatMap lnC)) 67):=by
    clear hw x
    intro h x
    have wf:=x.wf
    obtain ⟨f1,f2⟩:=x.flat
    have e0:=yYy k
    have hz:=yXv.2 hk
    refine ⟨[.cells (zBv [ii T.sp,ii T.lo,ii T.we,ii T.al,ii T.f0,ii T.f1,ii T.t0,ii T.t1,ii T.s0,ii T.s1,ii T.o0,ii T.o1,ii T.b0,ii T.b1,ii T.r0,ii T.r1]) 35,.cells (zBv [ii T.sp,ii T.lo,ii T.we,ii T.al,ii T.f0,ii T.f1,ii T.t0,ii T.t1,ii T.s0,ii T.s1,ii T.o0,ii T.o1,ii T.b0,ii T.b1,ii T.r0,ii T.r1,.sl (nx h 2) 0 ls.length (some ls.length) 2]) 76,.cells (zBv (ls.flatMap lnC)) 67]++(ls.map lnO++[.cells (zBv [ii T.sp,ii T.lo,ii T.we,ii T.al,ii T.f0,ii T.f1,ii T.t0,ii T.t1,ii T.s0,ii T.s1,ii T.o0,ii T.o1,ii T.b0,ii T.b1,ii T.r0,ii T.r1,.sl (nx h 2) 0 ls.length (some ls.length) 2]) 76]),?_,rfl⟩
    refine zWv (zLx (fn:=Try.f54) Try.func54 rfl rfl rfl rfl rfl ?_)
    simp only [zLz]
    have c1 : ∀ l w,w≤h.clock+l.length→(om Try.prog KK).call (.fn 70 [s]) (X h l w) = .ok (.sl (nx h l.length) 0 ls.length (some ls.length) 2) (X h (l++(.cells (zBv (ls.flatMap lnC)) 67 :: ls.map lnO)) w):=fun l w hw=>curvesOf s ls hk.n h x l w hw
    (repeat' (first
  | (with_reducible first|refine zJw ?_|refine zHz ?_|refine zFz ?_|refine zEv ?_|refine zFy ?_|refine zJv ?_|refine zHy ?_|refine zCz ?_|refine zDw ?_|refine zCy ?_|refine zCv ?_|refine zEx ?_|refine zDz ?_|refine zCx ?_|refine zBy ?_|refine zEz ?_|refine zEy ?_|refine zAv ?_|refine zBz ?_)
  | refine zDy ?_|refine zEw rfl ?_|refine zJy ?_|refine zJx ?_
  | ((first|refine zGv rfl rfl rfl rfl rfl fun K_ hK_=>?_|refine zGw rfl rfl rfl rfl rfl fun K_ hK_=>?_);simp only [zAz,zDx,zGx,↓reduceIte,reduceCtorEq,Nat.reduceEqDiff,Bool.not_true,Bool.not_false];refine hK_ _ ?_;clear hK_ K_)
  | refine zDv (by decide) ?_
  | ((try first|refine zKy rfl rfl rfl ?_|refine zJz rfl rfl ?_|refine zKx rfl rfl rfl ?_|refine zIw rfl rfl ?_);(refine zIv fun Q_ hQ_=>?_;simp (disch:=first|omega|(simp only [List.length_cons,List.length_nil,List.length_append];omega)) only [bb,bp,zLz,↓reduceIte,reduceCtorEq,Nat.reduceEqDiff,Nat.reduceLT,Nat.reduceLeDiff,Nat.reduceAdd,Nat.reduceMul,Nat.reduceSub,Nat.reduceBEq,Int.reduceToNat,cond_true,cond_false,eq_self,beq_self_eq_true,f1,f2,zFw wf,zGy wf,zBw wf,zFx wf,zAy wf,zAx,tEvD17,zIx,zIy,zIz,zHv,zFv,zAw wf];first|(refine zCw (Q:=Q_) (fun hp_=>?_) (fun hp_=>?_) <;> first|(exfalso;omega)|(refine hQ_ _ _ ?_;clear hQ_ Q_))|(refine zBx (Q:=Q_) (fun hp_=>?_) (fun hp_=>?_) <;> first|(exfalso;omega)|(refine hQ_ _ _ ?_;clear hQ_ Q_))|(refine hQ_ _ _ ?_;clear hQ_ Q_)|(refine zLv ((CheckTest T _ (wf.X (Nat.le_add_right _ _))).trans (by rw [e0])) ?_;refine hQ_ _ _ ?_;clear hQ_ Q_)|(refine zLv ((checkLines s ls _ (x.up _ _ (by simp only [List.length_append,List.length_cons,List.length_nil];omega))).trans (by rw [hz])) ?_;refine hQ_ _ _ ?_;clear hQ_ Q_)))
  | (refine zHx fun K_ hK_=>?_;simp (disch:=omega) only [zGz,zAz,zHw,↓reduceIte,reduceCtorEq,Nat.reduceEqDiff,Nat.reduceLT];refine hK_ _ ?_;clear hK_ K_)))
    refine zLy [.no,.no,.no,.no,.no,.full] (by kernel_rfl) ?_
    (repeat' (first
  | (with_reducible first|refine zJw ?_|refine zHz ?_|refine zFz ?_|refine zEv ?_|refine zFy ?_|refine zJv ?_|refine zHy ?_|refine zCz ?_|refine zDw ?_|refine zCy ?_|refine zCv ?_|refine zEx ?_|refine zDz ?_|refine zCx ?_|refine zBy ?_|refine zEz ?_|refine zEy ?_|refine zAv ?_|refine zBz ?_)
  | refine zDy ?_|refine zEw rfl ?_|refine zJy ?_|refine zJx ?_
  | ((first|refine zGv rfl rfl rfl rfl rfl fun K_ hK_=>?_|refine zGw rfl rfl rfl rfl rfl fun K_ hK_=>?_);simp only [zAz,zDx,zGx,↓reduceIte,reduceCtorEq,Nat.reduceEqDiff,Bool.not_true,Bool.not_false];refine hK_ _ ?_;clear hK_ K_)
  | refine zDv (by decide) ?_
  | ((try first|refine zKy rfl rfl rfl ?_|refine zJz rfl rfl ?_|refine zKx rfl rfl rfl ?_|refine zIw rfl rfl ?_);(refine zIv fun Q_ hQ_=>?_;simp (disch:=first|omega|(simp only [List.length_cons,List.length_nil,List.length_append];omega)) only [bb,bp,zLz,↓reduceIte,reduceCtorEq,Nat.reduceEqDiff,Nat.reduceLT,Nat.reduceLeDiff,Nat.reduceAdd,Nat.reduceMul,Nat.reduceSub,Nat.reduceBEq,Int.reduceToNat,cond_true,cond_false,eq_self,beq_self_eq_true,f1,f2,c1,zFw wf,zGy wf,zBw wf,zFx wf,zAy wf,zAx,tEvD17,zIx,zIy,zIz,zHv,zFv,zAw wf];first|(refine zCw (Q:=Q_) (fun hp_=>?_) (fun hp_=>?_) <;> first|(exfalso;omega)|(refine hQ_ _ _ ?_;clear hQ_ Q_))|(refine zBx (Q:=Q_) (fun hp_=>?_) (fun hp_=>?_) <;> first|(exfalso;omega)|(refine hQ_ _ _ ?_;clear hQ_ Q_))|(refine hQ_ _ _ ?_;clear hQ_ Q_)))
  | (refine zHx fun K_ hK_=>?_;simp (disch:=omega) only [zGz,zAz,zHw,↓reduceIte,reduceCtorEq,Nat.reduceEqDiff,Nat.reduceLT];refine hK_ _ ?_;clear hK_ K_)))
    (repeat' (first
  | (with_reducible first|refine zJw ?_|refine zHz ?_|refine zFz ?_|refine zEv ?_|refine zFy ?_|refine zJv ?_|refine zHy ?_|refine zCz ?_|refine zDw ?_|refine zCy ?_|refine zCv ?_|refine zEx ?_|refine zDz ?_|refine zCx ?_|refine zBy ?_|refine zEz ?_|refine zEy ?_|refine zAv ?_|refine zBz ?_)
  | refine zDy ?_|refine zEw rfl ?_|refine zJy ?_|refine zJx ?_
  | ((first|refine zGv rfl rfl rfl rfl rfl fun K_ hK_=>?_|refine zGw rfl rfl rfl rfl rfl fun K_ hK_=>?_);simp only [zAz,zDx,zGx,↓reduceIte,reduceCtorEq,Nat.reduceEqDiff,Bool.not_true,Bool.not_false];refine hK_ _ ?_;clear hK_ K_)
  | refine zDv (by decide) ?_
  | ((try first|refine zKy rfl rfl rfl ?_|refine zJz rfl rfl ?_|refine zKx rfl rfl rfl ?_|refine zIw rfl rfl ?_);(refine zIv fun Q_ hQ_=>?_;simp (disch:=first|omega|(simp only [List.length_cons,List.length_nil,List.length_append];omega)) only [bb,bp,zLz,↓reduceIte,reduceCtorEq,Nat.reduceEqDiff,Nat.reduceLT,Nat.reduceLeDiff,Nat.reduceAdd,Nat.reduceMul,Nat.reduceSub,Nat.reduceBEq,Int.reduceToNat,cond_true,cond_false,eq_self,beq_self_eq_true,f1,f2,zFw wf,zGy wf,zBw wf,zFx wf,zAy wf,zAx,tEvD17,zIx,zIy,zIz,zHv,zFv,zAw wf];first|(refine zCw (Q:=Q_) (fun hp_=>?_) (fun hp_=>?_) <;> first|(exfalso;omega)|(refine hQ_ _ _ ?_;clear hQ_ Q_))|(refine zBx (Q:=Q_) (fun hp_=>?_) (fun hp_=>?_) <;> first|(exfalso;omega)|(refine hQ_ _ _ ?_;clear hQ_ Q_))|(refine hQ_ _ _ ?_;clear hQ_ Q_)|(refine zLv ((isInside T k _ ls hk _ (x.new (k:=2) (by simp only [List.length_append,List.length_cons,List.length_nil];omega) rfl)).trans (by rw [decide_eq_true q])) ?_;refine hQ_ _ _ ?_;clear hQ_ Q_)))
  | (refine zHx fun K_ hK_=>?_;simp (disch:=omega) only [zGz,zAz,zHw,↓reduceIte,reduceCtorEq,Nat.reduceEqDiff,Nat.reduceLT];refine hK_ _ ?_;clear hK_ K_)))
    refine zKz _ _ rfl (retc1 (by decide) (by decide) (by simp (disch:=first|omega|(simp only [List.length_cons,List.length_nil,List.length_append];omega)) only [bb,bp,zLz,↓reduceIte,reduceCtorEq,Nat.reduceEqDiff,Nat.reduceLT,Nat.reduceLeDiff,Nat.reduceAdd,Nat.reduceMul,Nat.reduceSub,Nat.reduceBEq,Int.reduceToNat,cond_true,cond_false,eq_self,beq_self_eq_true,zBw wf,tEvD17,zIx,zIy,zIz,zHv,zFv,zAw wf];rfl)) ?_
    simp only [zAz,↓reduceIte,reduceCtorEq,Nat.reduceEqDiff]
    refine WV_ext (by exact Bool.and_false _) ?_
    refine ⟨rfl,?_⟩
    rw [Nat.min_eq_left wf.wle]
    rfl
  obtain ⟨M,h1,h2⟩:=key _ (x.up L w hw)
  refine ⟨M,.sl (nx h (L.length+2)) 0 ls.length (some ls.length) 2,?_,capu_some (Nat.le_refl _),fun R w' hw'=>?_⟩
  · rw [h1,X_X,nx_X,X_w]
  · refine x.new (e:=67) (by simp only [List.length_append];omega) ?_
    rw [List.getElem?_append_right (by omega),show L.length+2 - L.length=2 by omega,List.getElem?_append_left (zSx h2)]
    exact h2
end Go.Proofs.Ythaleckfgcgegaa
end

section
namespace Go.Proofs.Ythaleckfgcgegaa
open Go.Ev
set_option maxRecDepth 100000
set_option linter.unusedSimpArgs false
set_option linter.unusedVariables false
set_option maxHeartbeats 2000000
theorem tEvD18 :type_of% (And.intro (And.intro (And.intro (And.intro (And.intro (And.intro (And.intro (@yXx) (@yXy)) (And.intro (@yXz) (And.intro (@yWv) (@yWw)))) (And.intro (And.intro (@yWx) (And.intro (@yWy) (@yWz))) (And.intro (@zWz) (And.intro (@ia_2) (@sz_2))))) (And.intro (And.intro (And.intro (@ia_3) (@sz_3)) (And.intro (@ia_4) (And.intro (@sz_4) (@yVv)))) (And.intro (And.intro (@yFz) (And.intro (@yVw) (@yEv))) (And.intro (@yVx) (And.intro (@yEw) (@yVy)))))) (And.intro (And.intro (And.intro (And.intro (@yEx) (@yVz)) (And.intro (@yEy) (And.intro (@yUv) (@yEz)))) (And.intro (And.intro (@yUw) (And.intro (@yDv) (@yUx))) (And.intro (@yDw) (And.intro (@yUy) (@yDx))))) (And.intro (And.intro (And.intro (@yUz) (@yDy)) (And.intro (@yTv) (And.intro (@zYy) (@yTw)))) (And.intro (And.intro (@yDz) (And.intro (@yTx) (@yCv))) (And.intro (@yTy) (And.intro (@yCw) (@yTz))))))) (And.intro (And.intro (And.intro (And.intro (And.intro (@yCx) (@ySv)) (And.intro (@yCy) (And.intro (@ySw) (@yCz)))) (And.intro (And.intro (@ySx) (And.intro (@yBv) (@ySy))) (And.intro (@yBw) (And.intro (@ySz) (@yBx))))) (And.intro (And.intro (And.intro (@yRv) (@yBy)) (And.intro (@zVv) (And.intro (@zUx) (@zVw)))) (And.intro (And.intro (@zUy) (And.intro (@zVx) (@zUz))) (And.intro (@zVy) (And.intro (@zTv) (@zVz)))))) (And.intro (And.intro (And.intro (And.intro (@zTw) (@zUv)) (And.intro (@zTx) (And.intro (@zUw) (@zTy)))) (And.intro (And.intro (@ze_2) (And.intro (@ze_3) (@ze_4))) (And.intro (@yBz) (And.intro (@yAv) (@yAw))))) (And.intro (And.intro (And.intro (@yAx) (And.intro (@yAy) (@yAz))) (And.intro (@zZv) (And.intro (@zZw) (@zZx)))) (And.intro (And.intro (@zTz) (And.intro (@zSz) (@zRv))) (And.intro (@zRw) (And.intro (@zRx) (@zRy)))))))) (And.intro (And.intro (And.intro (And.intro (And.intro (And.intro (@zRz) (@zQv)) (And.intro (@zQw) (And.intro (@zQx) (@zQy)))) (And.intro (And.intro (@zQz) (And.intro (@zPv) (@zPw))) (And.intro (@zPx) (And.intro (@zPy) (@zPz))))) (And.intro (And.intro (And.intro (@zOv) (@zOw)) (And.intro (@zOx) (And.intro (@zOy) (@zOz)))) (And.intro (And.intro (@zNv) (And.intro (@zNw) (@zNx))) (And.intro (@zNy) (And.intro (@zNz) (@zMv)))))) (And.intro (And.intro (And.intro (And.intro (@zMw) (@yRw)) (And.intro (@yRx) (And.intro (@yRy) (@yRz)))) (And.intro (And.intro (@yQv) (And.intro (@yQw) (@yQx))) (And.intro (@yQy) (And.intro (@yQz) (@yPv))))) (And.intro (And.intro (And.intro (@yPw) (And.intro (@yPx) (@yPy))) (And.intro (@yPz) (And.intro (@yOv) (@yOw)))) (And.intro (And.intro (@yOx) (And.intro (@yOy) (@yOz))) (And.intro (@yNv) (And.intro (@yNw) (@yNx))))))) (And.intro (And.intro (And.intro (And.intro (And.intro (@yNy) (@yNz)) (And.intro (@yMv) (And.intro (@yMw) (@yMx)))) (And.intro (And.intro (@yMy) (And.intro (@yMz) (@yLv))) (And.intro (@yLw) (And.intro (@yLx) (@yLy))))) (And.intro (And.intro (And.intro (@yLz) (@yKv)) (And.intro (@yKw) (And.intro (@yKx) (@yKy)))) (And.intro (And.intro (@yKz) (And.intro (@yJv) (@yJw))) (And.intro (@yJx) (And.intro (@yJy) (@yJz)))))) (And.intro (And.intro (And.intro (And.intro (@yIv) (@yIw)) (And.intro (@yIx) (And.intro (@yIy) (@yIz)))) (And.intro (And.intro (@yHv) (And.intro (@zZy) (@zZz))) (And.intro (@yHw) (And.intro (@yHx) (@yHy))))) (And.intro (And.intro (And.intro (@yHz) (And.intro (@yGv) (@yGw))) (And.intro (@yGx) (And.intro (@yGy) (@yGz)))) (And.intro (And.intro (@yFv) (And.intro (@yFw) (@zYv))) (And.intro (@yFx) (And.intro (@yFy) (@zYw))))))))):=And.intro (And.intro (And.intro (And.intro (And.intro (And.intro (And.intro (@yXx) (@yXy)) (And.intro (@yXz) (And.intro (@yWv) (@yWw)))) (And.intro (And.intro (@yWx) (And.intro (@yWy) (@yWz))) (And.intro (@zWz) (And.intro (@ia_2) (@sz_2))))) (And.intro (And.intro (And.intro (@ia_3) (@sz_3)) (And.intro (@ia_4) (And.intro (@sz_4) (@yVv)))) (And.intro (And.intro (@yFz) (And.intro (@yVw) (@yEv))) (And.intro (@yVx) (And.intro (@yEw) (@yVy)))))) (And.intro (And.intro (And.intro (And.intro (@yEx) (@yVz)) (And.intro (@yEy) (And.intro (@yUv) (@yEz)))) (And.intro (And.intro (@yUw) (And.intro (@yDv) (@yUx))) (And.intro (@yDw) (And.intro (@yUy) (@yDx))))) (And.intro (And.intro (And.intro (@yUz) (@yDy)) (And.intro (@yTv) (And.intro (@zYy) (@yTw)))) (And.intro (And.intro (@yDz) (And.intro (@yTx) (@yCv))) (And.intro (@yTy) (And.intro (@yCw) (@yTz))))))) (And.intro (And.intro (And.intro (And.intro (And.intro (@yCx) (@ySv)) (And.intro (@yCy) (And.intro (@ySw) (@yCz)))) (And.intro (And.intro (@ySx) (And.intro (@yBv) (@ySy))) (And.intro (@yBw) (And.intro (@ySz) (@yBx))))) (And.intro (And.intro (And.intro (@yRv) (@yBy)) (And.intro (@zVv) (And.intro (@zUx) (@zVw)))) (And.intro (And.intro (@zUy) (And.intro (@zVx) (@zUz))) (And.intro (@zVy) (And.intro (@zTv) (@zVz)))))) (And.intro (And.intro (And.intro (And.intro (@zTw) (@zUv)) (And.intro (@zTx) (And.intro (@zUw) (@zTy)))) (And.intro (And.intro (@ze_2) (And.intro (@ze_3) (@ze_4))) (And.intro (@yBz) (And.intro (@yAv) (@yAw))))) (And.intro (And.intro (And.intro (@yAx) (And.intro (@yAy) (@yAz))) (And.intro (@zZv) (And.intro (@zZw) (@zZx)))) (And.intro (And.intro (@zTz) (And.intro (@zSz) (@zRv))) (And.intro (@zRw) (And.intro (@zRx) (@zRy)))))))) (And.intro (And.intro (And.intro (And.intro (And.intro (And.intro (@zRz) (@zQv)) (And.intro (@zQw) (And.intro (@zQx) (@zQy)))) (And.intro (And.intro (@zQz) (And.intro (@zPv) (@zPw))) (And.intro (@zPx) (And.intro (@zPy) (@zPz))))) (And.intro (And.intro (And.intro (@zOv) (@zOw)) (And.intro (@zOx) (And.intro (@zOy) (@zOz)))) (And.intro (And.intro (@zNv) (And.intro (@zNw) (@zNx))) (And.intro (@zNy) (And.intro (@zNz) (@zMv)))))) (And.intro (And.intro (And.intro (And.intro (@zMw) (@yRw)) (And.intro (@yRx) (And.intro (@yRy) (@yRz)))) (And.intro (And.intro (@yQv) (And.intro (@yQw) (@yQx))) (And.intro (@yQy) (And.intro (@yQz) (@yPv))))) (And.intro (And.intro (And.intro (@yPw) (And.intro (@yPx) (@yPy))) (And.intro (@yPz) (And.intro (@yOv) (@yOw)))) (And.intro (And.intro (@yOx) (And.intro (@yOy) (@yOz))) (And.intro (@yNv) (And.intro (@yNw) (@yNx))))))) (And.intro (And.intro (And.intro (And.intro (And.intro (@yNy) (@yNz)) (And.intro (@yMv) (And.intro (@yMw) (@yMx)))) (And.intro (And.intro (@yMy) (And.intro (@yMz) (@yLv))) (And.intro (@yLw) (And.intro (@yLx) (@yLy))))) (And.intro (And.intro (And.intro (@yLz) (@yKv)) (And.intro (@yKw) (And.intro (@yKx) (@yKy)))) (And.intro (And.intro (@yKz) (And.intro (@yJv) (@yJw))) (And.intro (@yJx) (And.intro (@yJy) (@yJz)))))) (And.intro (And.intro (And.intro (And.intro (@yIv) (@yIw)) (And.intro (@yIx) (And.intro (@yIy) (@yIz)))) (And.intro (And.intro (@yHv) (And.intro (@zZy) (@zZz))) (And.intro (@yHw) (And.intro (@yHx) (@yHy))))) (And.intro (And.intro (And.intro (@yHz) (And.intro (@yGv) (@yGw))) (And.intro (@yGx) (And.intro (@yGy) (@yGz)))) (And.intro (And.intro (@yFv) (And.intro (@yFw) (@zYv))) (And.intro (@yFx) (And.intro (@yFy) (@zYw))))))))
def cand (T:Te) (high:Bool) (o:Int):Tr:=if high=true then ⟨T.f1,T.t0,T.s1,o,T.b0,T.r1⟩ else ⟨T.f0,T.t1,T.s0,o,T.b1,T.r0⟩
def trC (x:Tr):List AV:=[ii x.f,ii x.t,ii x.s,ii x.o,ii x.b,ii x.r]
theorem xQy {T:Te} (k:okT T) (high:Bool) {o:Int} (ho:T.o0≤o∧o≤T.o1):isT T (cand T high o):=by
  have kf:=k.f
  have kt:=k.t
  have ks:=k.s
  have kb:=k.b
  have kr:=k.r
  cases high
  · exact ⟨⟨by show T.f0≤T.f0;omega,by show T.f0≤T.f1;omega⟩,⟨by show T.t0≤T.t1;omega,by show T.t1≤T.t1;omega⟩,⟨by show T.s0≤T.s0;omega,by show T.s0≤T.s1;omega⟩,ho,⟨by show T.b0≤T.b1;omega,by show T.b1≤T.b1;omega⟩,⟨by show T.r0≤T.r0;omega,by show T.r0≤T.r1;omega⟩⟩
  · exact ⟨⟨by show T.f0≤T.f1;omega,by show T.f1≤T.f1;omega⟩,⟨by show T.t0≤T.t0;omega,by show T.t0≤T.t1;omega⟩,⟨by show T.s0≤T.s1;omega,by show T.s1≤T.s1;omega⟩,ho,⟨by show T.b0≤T.b0;omega,by show T.b0≤T.b1;omega⟩,⟨by show T.r0≤T.r1;omega,by show T.r1≤T.r1;omega⟩⟩
theorem picked (u v:Int) (r high:Bool) (p:Pos) (h:H) (wf:Wf h) (hp : ∀ l w,load1 p 0 (X h l w)=some (.bool high)):(om Try.prog KK).call (.fn 78 [.agg [ii u,ii v],.bool r,.ptr p 0]) h = .ok (ii (if r=high then v else u)) h:=by
  have ix0 : ∀ u v,indexE Try.prog 117 (.agg [ii u,ii v]) (.int .i64 0)=some (ii u):=fun u v=>xPx (i:=0) un_117 sz_2 ia_2 (by decide) rfl
  have ix1 : ∀ u v,indexE Try.prog 117 (.agg [ii u,ii v]) (.int .i64 1)=some (ii v):=fun u v=>xPx (i:=1) un_117 sz_2 ia_2 (by decide) rfl
  have he : ∀ x y a b,binE Try.prog .eql 4 x y (.bool a) (.bool b)=some (.bool (a == b)):=fun x y a b=>b_eqlB un_4
  refine zWv (zLx (fn:=Try.f78) Try.func78 rfl rfl rfl rfl rfl ?_)
  simp only [zLz]
  cases r <;> cases high
  · (repeat' (first
  | (with_reducible first|refine zJw ?_|refine zHz ?_|refine zFz ?_|refine zEv ?_|refine zFy ?_|refine zJv ?_|refine zHy ?_|refine zCz ?_|refine zDw ?_|refine zCy ?_|refine zCv ?_|refine zEx ?_|refine zDz ?_|refine zCx ?_|refine zBy ?_|refine zEz ?_|refine zEy ?_|refine zAv ?_|refine zBz ?_)
  | refine zDy ?_|refine zEw rfl ?_|refine zJy ?_|refine zJx ?_
  | ((first|refine zGv rfl rfl rfl rfl rfl fun K_ hK_=>?_|refine zGw rfl rfl rfl rfl rfl fun K_ hK_=>?_);simp only [zAz,zDx,zGx,↓reduceIte,reduceCtorEq,Nat.reduceEqDiff,Bool.not_true,Bool.not_false];refine hK_ _ ?_;clear hK_ K_)
  | refine zDv (by decide) ?_
  | ((try first|refine zKy rfl rfl rfl ?_|refine zJz rfl rfl ?_|refine zKx rfl rfl rfl ?_|refine zIw rfl rfl ?_);(refine zIv fun Q_ hQ_=>?_;simp (disch:=first|omega|(simp only [List.length_cons,List.length_nil,List.length_append];omega)) only [bb,bp,zLz,↓reduceIte,reduceCtorEq,Nat.reduceEqDiff,Nat.reduceLT,Nat.reduceLeDiff,Nat.reduceAdd,Nat.reduceMul,Nat.reduceSub,Nat.reduceBEq,Int.reduceToNat,cond_true,cond_false,eq_self,beq_self_eq_true,hp,he,ix0,ix1,beq_self_eq_true,zFw wf,zGy wf,zBw wf,zFx wf,zAy wf,zAx,tEvD18,zIx,zIy,zIz,zHv,zFv,zAw wf];first|(refine zCw (Q:=Q_) (fun hp_=>?_) (fun hp_=>?_) <;> first|(exfalso;omega)|(refine hQ_ _ _ ?_;clear hQ_ Q_))|(refine zBx (Q:=Q_) (fun hp_=>?_) (fun hp_=>?_) <;> first|(exfalso;omega)|(refine hQ_ _ _ ?_;clear hQ_ Q_))|(refine hQ_ _ _ ?_;clear hQ_ Q_)|(refine zLv (ends u v _ (wf.X (Nat.le_add_right _ _))) ?_;refine hQ_ _ _ ?_;clear hQ_ Q_)))
  | (refine zHx fun K_ hK_=>?_;simp (disch:=omega) only [zGz,zAz,zHw,↓reduceIte,reduceCtorEq,Nat.reduceEqDiff,Nat.reduceLT];refine hK_ _ ?_;clear hK_ K_)))
    (refine zKz _ _ rfl (ret1 (by decide)) ?_;simp only [zAz,↓reduceIte,reduceCtorEq,Nat.reduceEqDiff];refine zKw rfl (by omega) ?_)
    exact ⟨rfl,rfl⟩
  · (repeat' (first
  | (with_reducible first|refine zJw ?_|refine zHz ?_|refine zFz ?_|refine zEv ?_|refine zFy ?_|refine zJv ?_|refine zHy ?_|refine zCz ?_|refine zDw ?_|refine zCy ?_|refine zCv ?_|refine zEx ?_|refine zDz ?_|refine zCx ?_|refine zBy ?_|refine zEz ?_|refine zEy ?_|refine zAv ?_|refine zBz ?_)
  | refine zDy ?_|refine zEw rfl ?_|refine zJy ?_|refine zJx ?_
  | ((first|refine zGv rfl rfl rfl rfl rfl fun K_ hK_=>?_|refine zGw rfl rfl rfl rfl rfl fun K_ hK_=>?_);simp only [zAz,zDx,zGx,↓reduceIte,reduceCtorEq,Nat.reduceEqDiff,Bool.not_true,Bool.not_false];refine hK_ _ ?_;clear hK_ K_)
  | refine zDv (by decide) ?_
  | ((try first|refine zKy rfl rfl rfl ?_|refine zJz rfl rfl ?_|refine zKx rfl rfl rfl ?_|refine zIw rfl rfl ?_);(refine zIv fun Q_ hQ_=>?_;simp (disch:=first|omega|(simp only [List.length_cons,List.length_nil,List.length_append];omega)) only [bb,bp,zLz,↓reduceIte,reduceCtorEq,Nat.reduceEqDiff,Nat.reduceLT,Nat.reduceLeDiff,Nat.reduceAdd,Nat.reduceMul,Nat.reduceSub,Nat.reduceBEq,Int.reduceToNat,cond_true,cond_false,eq_self,beq_self_eq_true,hp,he,ix0,ix1,show (false == true)=false from rfl,zFw wf,zGy wf,zBw wf,zFx wf,zAy wf,zAx,tEvD18,zIx,zIy,zIz,zHv,zFv,zAw wf];first|(refine zCw (Q:=Q_) (fun hp_=>?_) (fun hp_=>?_) <;> first|(exfalso;omega)|(refine hQ_ _ _ ?_;clear hQ_ Q_))|(refine zBx (Q:=Q_) (fun hp_=>?_) (fun hp_=>?_) <;> first|(exfalso;omega)|(refine hQ_ _ _ ?_;clear hQ_ Q_))|(refine hQ_ _ _ ?_;clear hQ_ Q_)|(refine zLv (ends u v _ (wf.X (Nat.le_add_right _ _))) ?_;refine hQ_ _ _ ?_;clear hQ_ Q_)))
  | (refine zHx fun K_ hK_=>?_;simp (disch:=omega) only [zGz,zAz,zHw,↓reduceIte,reduceCtorEq,Nat.reduceEqDiff,Nat.reduceLT];refine hK_ _ ?_;clear hK_ K_)))
    (refine zKz _ _ rfl (ret1 (by decide)) ?_;simp only [zAz,↓reduceIte,reduceCtorEq,Nat.reduceEqDiff];refine zKw rfl (by omega) ?_)
    exact ⟨rfl,rfl⟩
  · (repeat' (first
  | (with_reducible first|refine zJw ?_|refine zHz ?_|refine zFz ?_|refine zEv ?_|refine zFy ?_|refine zJv ?_|refine zHy ?_|refine zCz ?_|refine zDw ?_|refine zCy ?_|refine zCv ?_|refine zEx ?_|refine zDz ?_|refine zCx ?_|refine zBy ?_|refine zEz ?_|refine zEy ?_|refine zAv ?_|refine zBz ?_)
  | refine zDy ?_|refine zEw rfl ?_|refine zJy ?_|refine zJx ?_
  | ((first|refine zGv rfl rfl rfl rfl rfl fun K_ hK_=>?_|refine zGw rfl rfl rfl rfl rfl fun K_ hK_=>?_);simp only [zAz,zDx,zGx,↓reduceIte,reduceCtorEq,Nat.reduceEqDiff,Bool.not_true,Bool.not_false];refine hK_ _ ?_;clear hK_ K_)
  | refine zDv (by decide) ?_
  | ((try first|refine zKy rfl rfl rfl ?_|refine zJz rfl rfl ?_|refine zKx rfl rfl rfl ?_|refine zIw rfl rfl ?_);(refine zIv fun Q_ hQ_=>?_;simp (disch:=first|omega|(simp only [List.length_cons,List.length_nil,List.length_append];omega)) only [bb,bp,zLz,↓reduceIte,reduceCtorEq,Nat.reduceEqDiff,Nat.reduceLT,Nat.reduceLeDiff,Nat.reduceAdd,Nat.reduceMul,Nat.reduceSub,Nat.reduceBEq,Int.reduceToNat,cond_true,cond_false,eq_self,beq_self_eq_true,hp,he,ix0,ix1,show (true == false)=false from rfl,zFw wf,zGy wf,zBw wf,zFx wf,zAy wf,zAx,tEvD18,zIx,zIy,zIz,zHv,zFv,zAw wf];first|(refine zCw (Q:=Q_) (fun hp_=>?_) (fun hp_=>?_) <;> first|(exfalso;omega)|(refine hQ_ _ _ ?_;clear hQ_ Q_))|(refine zBx (Q:=Q_) (fun hp_=>?_) (fun hp_=>?_) <;> first|(exfalso;omega)|(refine hQ_ _ _ ?_;clear hQ_ Q_))|(refine hQ_ _ _ ?_;clear hQ_ Q_)|(refine zLv (ends u v _ (wf.X (Nat.le_add_right _ _))) ?_;refine hQ_ _ _ ?_;clear hQ_ Q_)))
  | (refine zHx fun K_ hK_=>?_;simp (disch:=omega) only [zGz,zAz,zHw,↓reduceIte,reduceCtorEq,Nat.reduceEqDiff,Nat.reduceLT];refine hK_ _ ?_;clear hK_ K_)))
    (refine zKz _ _ rfl (ret1 (by decide)) ?_;simp only [zAz,↓reduceIte,reduceCtorEq,Nat.reduceEqDiff];refine zKw rfl (by omega) ?_)
    exact ⟨rfl,rfl⟩
  · (repeat' (first
  | (with_reducible first|refine zJw ?_|refine zHz ?_|refine zFz ?_|refine zEv ?_|refine zFy ?_|refine zJv ?_|refine zHy ?_|refine zCz ?_|refine zDw ?_|refine zCy ?_|refine zCv ?_|refine zEx ?_|refine zDz ?_|refine zCx ?_|refine zBy ?_|refine zEz ?_|refine zEy ?_|refine zAv ?_|refine zBz ?_)
  | refine zDy ?_|refine zEw rfl ?_|refine zJy ?_|refine zJx ?_
  | ((first|refine zGv rfl rfl rfl rfl rfl fun K_ hK_=>?_|refine zGw rfl rfl rfl rfl rfl fun K_ hK_=>?_);simp only [zAz,zDx,zGx,↓reduceIte,reduceCtorEq,Nat.reduceEqDiff,Bool.not_true,Bool.not_false];refine hK_ _ ?_;clear hK_ K_)
  | refine zDv (by decide) ?_
  | ((try first|refine zKy rfl rfl rfl ?_|refine zJz rfl rfl ?_|refine zKx rfl rfl rfl ?_|refine zIw rfl rfl ?_);(refine zIv fun Q_ hQ_=>?_;simp (disch:=first|omega|(simp only [List.length_cons,List.length_nil,List.length_append];omega)) only [bb,bp,zLz,↓reduceIte,reduceCtorEq,Nat.reduceEqDiff,Nat.reduceLT,Nat.reduceLeDiff,Nat.reduceAdd,Nat.reduceMul,Nat.reduceSub,Nat.reduceBEq,Int.reduceToNat,cond_true,cond_false,eq_self,beq_self_eq_true,hp,he,ix0,ix1,beq_self_eq_true,zFw wf,zGy wf,zBw wf,zFx wf,zAy wf,zAx,tEvD18,zIx,zIy,zIz,zHv,zFv,zAw wf];first|(refine zCw (Q:=Q_) (fun hp_=>?_) (fun hp_=>?_) <;> first|(exfalso;omega)|(refine hQ_ _ _ ?_;clear hQ_ Q_))|(refine zBx (Q:=Q_) (fun hp_=>?_) (fun hp_=>?_) <;> first|(exfalso;omega)|(refine hQ_ _ _ ?_;clear hQ_ Q_))|(refine hQ_ _ _ ?_;clear hQ_ Q_)|(refine zLv (ends u v _ (wf.X (Nat.le_add_right _ _))) ?_;refine hQ_ _ _ ?_;clear hQ_ Q_)))
  | (refine zHx fun K_ hK_=>?_;simp (disch:=omega) only [zGz,zAz,zHw,↓reduceIte,reduceCtorEq,Nat.reduceEqDiff,Nat.reduceLT];refine hK_ _ ?_;clear hK_ K_)))
    (refine zKz _ _ rfl (ret1 (by decide)) ?_;simp only [zAz,↓reduceIte,reduceCtorEq,Nat.reduceEqDiff];refine zKw rfl (by omega) ?_)
    exact ⟨rfl,rfl⟩

theorem candidates (T:Te) (lv:AV) (hf:AV.cells lv=[lv]∧oneB lv=true) (high:Bool) (h:H) (wf:Wf h) (L:List AO) (w:Nat) (hw:w≤h.clock+L.length) :
    (om Try.prog KK).call (.fn 75 [.agg [ii T.sp,ii T.lo,ii T.we,ii T.al,ii T.f0,ii T.f1,ii T.t0,ii T.t1,ii T.s0,ii T.s1,ii T.o0,ii T.o1,ii T.b0,ii T.b1,ii T.r0,ii T.r1,lv],.bool high]) (X h L w) = .ok (.fn 79 [] [.ptr (nx h L.length) 0,.ptr (nx h (L.length+2)) 0]) (X h (L++[.cells (zBv [ii T.sp,ii T.lo,ii T.we,ii T.al,ii T.f0,ii T.f1,ii T.t0,ii T.t1,ii T.s0,ii T.s1,ii T.o0,ii T.o1,ii T.b0,ii T.b1,ii T.r0,ii T.r1,lv]) 76,.cells (zBv [.bool high]) 4,.cells (zBv (trC (cand T high 0))) 37]) w):=by
  obtain ⟨f1,f2⟩:=hf
  have key : ∀ hb,Wf hb→(om Try.prog KK).call (.fn 75 [.agg [ii T.sp,ii T.lo,ii T.we,ii T.al,ii T.f0,ii T.f1,ii T.t0,ii T.t1,ii T.s0,ii T.s1,ii T.o0,ii T.o1,ii T.b0,ii T.b1,ii T.r0,ii T.r1,lv],.bool high]) hb = .ok (.fn 79 [] [.ptr (nx hb 0) 0,.ptr (nx hb 2) 0]) (X hb [.cells (zBv [ii T.sp,ii T.lo,ii T.we,ii T.al,ii T.f0,ii T.f1,ii T.t0,ii T.t1,ii T.s0,ii T.s1,ii T.o0,ii T.o1,ii T.b0,ii T.b1,ii T.r0,ii T.r1,lv]) 76,.cells (zBv [.bool high]) 4,.cells (zBv (trC (cand T high 0))) 37] hb.w):=by
    clear hw wf
    intro h wf
    have c1 : ∀ u v r w,w≤h.clock+2→(om Try.prog KK).call (.fn 78 [.agg [ii u,ii v],.bool r,.ptr (nx h 1) 0]) (X h [.cells (zBv [ii T.sp,ii T.lo,ii T.we,ii T.al,ii T.f0,ii T.f1,ii T.t0,ii T.t1,ii T.s0,ii T.s1,ii T.o0,ii T.o1,ii T.b0,ii T.b1,ii T.r0,ii T.r1,lv]) 76,.cells (zBv [.bool high]) 4] w) = .ok (ii (if r=high then v else u)) (X h [.cells (zBv [ii T.sp,ii T.lo,ii T.we,ii T.al,ii T.f0,ii T.f1,ii T.t0,ii T.t1,ii T.s0,ii T.s1,ii T.o0,ii T.o1,ii T.b0,ii T.b1,ii T.r0,ii T.r1,lv]) 76,.cells (zBv [.bool high]) 4] w):=fun u v r w hw=>picked u v r high (nx h 1) _ (wf.X hw) fun l w=>by rw [X_X,zGy wf];rfl
    refine zWv (zLx (fn:=Try.f75) Try.func75 rfl rfl rfl rfl rfl ?_)
    simp only [zLz]
    have fin : ∀ (A:List AV),A=trC (cand T high 0)→WV (pureCall h (.ok (.fn 79 [] [.ptr (nx h 0) 0,.ptr (nx h 2) 0]) (X h [.cells (zBv [ii T.sp,ii T.lo,ii T.we,ii T.al,ii T.f0,ii T.f1,ii T.t0,ii T.t1,ii T.s0,ii T.s1,ii T.o0,ii T.o1,ii T.b0,ii T.b1,ii T.r0,ii T.r1,lv]) 76,.cells (zBv [.bool high]) 4,.cells (zBv A) 37] h.clock))) fun v h_1=>v = .fn 79 [] [.ptr (nx h 0) 0,.ptr (nx h 2) 0]∧h_1=X h [.cells (zBv [ii T.sp,ii T.lo,ii T.we,ii T.al,ii T.f0,ii T.f1,ii T.t0,ii T.t1,ii T.s0,ii T.s1,ii T.o0,ii T.o1,ii T.b0,ii T.b1,ii T.r0,ii T.r1,lv]) 76,.cells (zBv [.bool high]) 4,.cells (zBv (trC (cand T high 0))) 37] h.w:=fun A e=>by
      rw [e]
      refine WV_ext (by exact Bool.and_false _) ?_
      refine ⟨rfl,?_⟩
      rw [Nat.min_eq_left wf.wle]
    cases high
    · (repeat' (first
  | (with_reducible first|refine zJw ?_|refine zHz ?_|refine zFz ?_|refine zEv ?_|refine zFy ?_|refine zJv ?_|refine zHy ?_|refine zCz ?_|refine zDw ?_|refine zCy ?_|refine zCv ?_|refine zEx ?_|refine zDz ?_|refine zCx ?_|refine zBy ?_|refine zEz ?_|refine zEy ?_|refine zAv ?_|refine zBz ?_)
  | refine zDy ?_|refine zEw rfl ?_|refine zJy ?_|refine zJx ?_
  | ((first|refine zGv rfl rfl rfl rfl rfl fun K_ hK_=>?_|refine zGw rfl rfl rfl rfl rfl fun K_ hK_=>?_);simp only [zAz,zDx,zGx,↓reduceIte,reduceCtorEq,Nat.reduceEqDiff,Bool.not_true,Bool.not_false];refine hK_ _ ?_;clear hK_ K_)
  | refine zDv (by decide) ?_
  | ((try first|refine zKy rfl rfl rfl ?_|refine zJz rfl rfl ?_|refine zKx rfl rfl rfl ?_|refine zIw rfl rfl ?_);(refine zIv fun Q_ hQ_=>?_;simp (disch:=first|omega|(simp only [List.length_cons,List.length_nil,List.length_append];omega)) only [bb,bp,zLz,↓reduceIte,reduceCtorEq,Nat.reduceEqDiff,Nat.reduceLT,Nat.reduceLeDiff,Nat.reduceAdd,Nat.reduceMul,Nat.reduceSub,Nat.reduceBEq,Int.reduceToNat,cond_true,cond_false,eq_self,beq_self_eq_true,f1,f2,zFw wf,zGy wf,zBw wf,zFx wf,zAy wf,zAx,tEvD18,zIx,zIy,zIz,zHv,zFv,zAw wf];first|(refine zCw (Q:=Q_) (fun hp_=>?_) (fun hp_=>?_) <;> first|(exfalso;omega)|(refine hQ_ _ _ ?_;clear hQ_ Q_))|(refine zBx (Q:=Q_) (fun hp_=>?_) (fun hp_=>?_) <;> first|(exfalso;omega)|(refine hQ_ _ _ ?_;clear hQ_ Q_))|(refine hQ_ _ _ ?_;clear hQ_ Q_)))
  | (refine zHx fun K_ hK_=>?_;simp (disch:=omega) only [zGz,zAz,zHw,↓reduceIte,reduceCtorEq,Nat.reduceEqDiff,Nat.reduceLT];refine hK_ _ ?_;clear hK_ K_)))
      refine zLy (List.replicate 27 .no++[.full]) (by kernel_rfl) ?_
      (repeat' (first
  | (with_reducible first|refine zJw ?_|refine zHz ?_|refine zFz ?_|refine zEv ?_|refine zFy ?_|refine zJv ?_|refine zHy ?_|refine zCz ?_|refine zDw ?_|refine zCy ?_|refine zCv ?_|refine zEx ?_|refine zDz ?_|refine zCx ?_|refine zBy ?_|refine zEz ?_|refine zEy ?_|refine zAv ?_|refine zBz ?_)
  | refine zDy ?_|refine zEw rfl ?_|refine zJy ?_|refine zJx ?_
  | ((first|refine zGv rfl rfl rfl rfl rfl fun K_ hK_=>?_|refine zGw rfl rfl rfl rfl rfl fun K_ hK_=>?_);simp only [zAz,zDx,zGx,↓reduceIte,reduceCtorEq,Nat.reduceEqDiff,Bool.not_true,Bool.not_false];refine hK_ _ ?_;clear hK_ K_)
  | refine zDv (by decide) ?_
  | ((try first|refine zKy rfl rfl rfl ?_|refine zJz rfl rfl ?_|refine zKx rfl rfl rfl ?_|refine zIw rfl rfl ?_);(refine zIv fun Q_ hQ_=>?_;simp (disch:=first|omega|(simp only [List.length_cons,List.length_nil,List.length_append];omega)) only [bb,bp,zLz,↓reduceIte,reduceCtorEq,Nat.reduceEqDiff,Nat.reduceLT,Nat.reduceLeDiff,Nat.reduceAdd,Nat.reduceMul,Nat.reduceSub,Nat.reduceBEq,Int.reduceToNat,cond_true,cond_false,eq_self,beq_self_eq_true,f1,f2,c1,xHz,zFw wf,zGy wf,zBw wf,zFx wf,zAy wf,zAx,tEvD18,zIx,zIy,zIz,zHv,zFv,zAw wf];first|(refine zCw (Q:=Q_) (fun hp_=>?_) (fun hp_=>?_) <;> first|(exfalso;omega)|(refine hQ_ _ _ ?_;clear hQ_ Q_))|(refine zBx (Q:=Q_) (fun hp_=>?_) (fun hp_=>?_) <;> first|(exfalso;omega)|(refine hQ_ _ _ ?_;clear hQ_ Q_))|(refine hQ_ _ _ ?_;clear hQ_ Q_)))
  | (refine zHx fun K_ hK_=>?_;simp (disch:=omega) only [zGz,zAz,zHw,↓reduceIte,reduceCtorEq,Nat.reduceEqDiff,Nat.reduceLT];refine hK_ _ ?_;clear hK_ K_)))
      refine zKz _ _ rfl (ret1 (by decide)) ?_
      simp only [zAz,↓reduceIte,reduceCtorEq,Nat.reduceEqDiff]
      exact fin _ rfl
    · (repeat' (first
  | (with_reducible first|refine zJw ?_|refine zHz ?_|refine zFz ?_|refine zEv ?_|refine zFy ?_|refine zJv ?_|refine zHy ?_|refine zCz ?_|refine zDw ?_|refine zCy ?_|refine zCv ?_|refine zEx ?_|refine zDz ?_|refine zCx ?_|refine zBy ?_|refine zEz ?_|refine zEy ?_|refine zAv ?_|refine zBz ?_)
  | refine zDy ?_|refine zEw rfl ?_|refine zJy ?_|refine zJx ?_
  | ((first|refine zGv rfl rfl rfl rfl rfl fun K_ hK_=>?_|refine zGw rfl rfl rfl rfl rfl fun K_ hK_=>?_);simp only [zAz,zDx,zGx,↓reduceIte,reduceCtorEq,Nat.reduceEqDiff,Bool.not_true,Bool.not_false];refine hK_ _ ?_;clear hK_ K_)
  | refine zDv (by decide) ?_
  | ((try first|refine zKy rfl rfl rfl ?_|refine zJz rfl rfl ?_|refine zKx rfl rfl rfl ?_|refine zIw rfl rfl ?_);(refine zIv fun Q_ hQ_=>?_;simp (disch:=first|omega|(simp only [List.length_cons,List.length_nil,List.length_append];omega)) only [bb,bp,zLz,↓reduceIte,reduceCtorEq,Nat.reduceEqDiff,Nat.reduceLT,Nat.reduceLeDiff,Nat.reduceAdd,Nat.reduceMul,Nat.reduceSub,Nat.reduceBEq,Int.reduceToNat,cond_true,cond_false,eq_self,beq_self_eq_true,f1,f2,zFw wf,zGy wf,zBw wf,zFx wf,zAy wf,zAx,tEvD18,zIx,zIy,zIz,zHv,zFv,zAw wf];first|(refine zCw (Q:=Q_) (fun hp_=>?_) (fun hp_=>?_) <;> first|(exfalso;omega)|(refine hQ_ _ _ ?_;clear hQ_ Q_))|(refine zBx (Q:=Q_) (fun hp_=>?_) (fun hp_=>?_) <;> first|(exfalso;omega)|(refine hQ_ _ _ ?_;clear hQ_ Q_))|(refine hQ_ _ _ ?_;clear hQ_ Q_)))
  | (refine zHx fun K_ hK_=>?_;simp (disch:=omega) only [zGz,zAz,zHw,↓reduceIte,reduceCtorEq,Nat.reduceEqDiff,Nat.reduceLT];refine hK_ _ ?_;clear hK_ K_)))
      refine zLy (List.replicate 27 .no++[.full]) (by kernel_rfl) ?_
      (repeat' (first
  | (with_reducible first|refine zJw ?_|refine zHz ?_|refine zFz ?_|refine zEv ?_|refine zFy ?_|refine zJv ?_|refine zHy ?_|refine zCz ?_|refine zDw ?_|refine zCy ?_|refine zCv ?_|refine zEx ?_|refine zDz ?_|refine zCx ?_|refine zBy ?_|refine zEz ?_|refine zEy ?_|refine zAv ?_|refine zBz ?_)
  | refine zDy ?_|refine zEw rfl ?_|refine zJy ?_|refine zJx ?_
  | ((first|refine zGv rfl rfl rfl rfl rfl fun K_ hK_=>?_|refine zGw rfl rfl rfl rfl rfl fun K_ hK_=>?_);simp only [zAz,zDx,zGx,↓reduceIte,reduceCtorEq,Nat.reduceEqDiff,Bool.not_true,Bool.not_false];refine hK_ _ ?_;clear hK_ K_)
  | refine zDv (by decide) ?_
  | ((try first|refine zKy rfl rfl rfl ?_|refine zJz rfl rfl ?_|refine zKx rfl rfl rfl ?_|refine zIw rfl rfl ?_);(refine zIv fun Q_ hQ_=>?_;simp (disch:=first|omega|(simp only [List.length_cons,List.length_nil,List.length_append];omega)) only [bb,bp,zLz,↓reduceIte,reduceCtorEq,Nat.reduceEqDiff,Nat.reduceLT,Nat.reduceLeDiff,Nat.reduceAdd,Nat.reduceMul,Nat.reduceSub,Nat.reduceBEq,Int.reduceToNat,cond_true,cond_false,eq_self,beq_self_eq_true,f1,f2,c1,xHz,zFw wf,zGy wf,zBw wf,zFx wf,zAy wf,zAx,tEvD18,zIx,zIy,zIz,zHv,zFv,zAw wf];first|(refine zCw (Q:=Q_) (fun hp_=>?_) (fun hp_=>?_) <;> first|(exfalso;omega)|(refine hQ_ _ _ ?_;clear hQ_ Q_))|(refine zBx (Q:=Q_) (fun hp_=>?_) (fun hp_=>?_) <;> first|(exfalso;omega)|(refine hQ_ _ _ ?_;clear hQ_ Q_))|(refine hQ_ _ _ ?_;clear hQ_ Q_)))
  | (refine zHx fun K_ hK_=>?_;simp (disch:=omega) only [zGz,zAz,zHw,↓reduceIte,reduceCtorEq,Nat.reduceEqDiff,Nat.reduceLT];refine hK_ _ ?_;clear hK_ K_)))
      refine zKz _ _ rfl (ret1 (by decide)) ?_
      simp only [zAz,↓reduceIte,reduceCtorEq,Nat.reduceEqDiff]
      exact fin _ rfl
  rw [key _ (wf.X hw),X_X,nx_X,nx_X,X_w]
  rfl

def cnt (T:Te):Nat:=(T.o1 - T.o0).toNat+1
theorem trC_set (T:Te) (high:Bool) (o o':Int):(trC (cand T high o)).set 3 (ii o')=trC (cand T high o'):=by cases high <;> rfl
theorem cands (T:Te) (k:okT T) (lv:AV) (high:Bool) {h:H} (wf:Wf h) (A p:Nat) (l:Pos) (L0:List AO) (w0:Nat) (hw0:w0≤h.clock+L0.length) (hlo:h.clock≤w0) (I:Nat→List AO→Prop) (D:List AO→Prop)
    (hI : ∀ q L,I q L→L.length=L0.length∧L[A]? = some (.cells (zBv [ii T.sp,ii T.lo,ii T.we,ii T.al,ii T.f0,ii T.f1,ii T.t0,ii T.t1,ii T.s0,ii T.s1,ii T.o0,ii T.o1,ii T.b0,ii T.b1,ii T.r0,ii T.r1,lv]) 76) ∧ ∃ o,L[p]? = some (.cells (zBv (trC (cand T high o))) 37))
    (hset : ∀ q L o,I q L→I q (L.set p (.cells (zBv (trC (cand T high o))) 37)))
    (hy : ∀ q,q<cnt T → ∀ L J w,I q L→h.clock≤w→w≤h.clock+(L.length+J.length)→WV ((om Try.prog KK).call (.yld l [.agg (trC (cand T high (T.o0+(q:Int))))]) (X h (L++J) w)) fun v h'=>∃ L' J' w',h'=X h (L'++(J++J')) w'∧h.clock≤w'∧w'<h.clock+L0.length∧(v = .bool true∧I (q+1) L'∨v = .bool false∧L'.length=L0.length∧D L'))
    (h0:I 0 L0) :
    WV (callV Try.prog (om Try.prog KK) (.fn 79 [] [.ptr (nx h A) 0,.ptr (nx h p) 0]) [.yld l] (X h L0 w0)) fun _ h'=>∃ L J w,h'=X h (L++J) w∧h.clock≤w∧w≤h.clock+L.length∧(I (cnt T) L∨L.length=L0.length∧D L):=by
  have ko:=k.o
  have hcnt:(cnt T:Int)=T.o1 - T.o0+1:=by unfold cnt;omega
  obtain ⟨-,a0,-⟩:=hI 0 L0 h0
  rw [xHz,zYw]
  show WV ((om Try.prog KK).call (.fn 79 [.yld l,.ptr (nx h A) 0,.ptr (nx h p) 0]) (X h L0 w0)) _
  have wfb:=wf.X hw0
  have ldA : ∀ {L:List AO},L[A]? = some (.cells (zBv [ii T.sp,ii T.lo,ii T.we,ii T.al,ii T.f0,ii T.f1,ii T.t0,ii T.t1,ii T.s0,ii T.s1,ii T.o0,ii T.o1,ii T.b0,ii T.b1,ii T.r0,ii T.r1,lv]) 76) → ∀ J w,load1 (nx h A) 10 (X h (L++J) w)=some (ii T.o0)∧load1 (nx h A) 11 (X h (L++J) w)=some (ii T.o1):=fun {L} hL J w=>by
    rw [zGy wf,zGy wf,List.getElem?_append_left (zSx hL),hL]
    exact ⟨rfl,rfl⟩
  have ld0 : ∀ J w,load1 (nx h A) 10 (X (X h L0 w0) J w)=some (ii T.o0):=fun J w=>by rw [X_X];exact (ldA a0 J w).1
  refine zLx (fn:=Try.f79) Try.func79 rfl rfl rfl rfl rfl ?_
  simp only [zLz]
  (repeat' (first
  | (with_reducible first|refine zJw ?_|refine zHz ?_|refine zFz ?_|refine zEv ?_|refine zFy ?_|refine zJv ?_|refine zHy ?_|refine zCz ?_|refine zDw ?_|refine zCy ?_|refine zCv ?_|refine zEx ?_|refine zDz ?_|refine zCx ?_|refine zBy ?_|refine zEz ?_|refine zEy ?_|refine zAv ?_|refine zBz ?_)
  | refine zDy ?_|refine zEw rfl ?_|refine zJy ?_|refine zJx ?_
  | ((first|refine zGv rfl rfl rfl rfl rfl fun K_ hK_=>?_|refine zGw rfl rfl rfl rfl rfl fun K_ hK_=>?_);simp only [zAz,zDx,zGx,↓reduceIte,reduceCtorEq,Nat.reduceEqDiff,Bool.not_true,Bool.not_false];refine hK_ _ ?_;clear hK_ K_)
  | refine zDv (by decide) ?_
  | ((try first|refine zKy rfl rfl rfl ?_|refine zJz rfl rfl ?_|refine zKx rfl rfl rfl ?_|refine zIw rfl rfl ?_);(refine zIv fun Q_ hQ_=>?_;simp (disch:=first|omega|(simp only [List.length_cons,List.length_nil,List.length_append];omega)) only [bb,bp,zLz,↓reduceIte,reduceCtorEq,Nat.reduceEqDiff,Nat.reduceLT,Nat.reduceLeDiff,Nat.reduceAdd,Nat.reduceMul,Nat.reduceSub,Nat.reduceBEq,Int.reduceToNat,cond_true,cond_false,eq_self,beq_self_eq_true,ld0,tEvD18,zIx,zIy,zIz,zHv,zFv,zAw wf];first|(refine zCw (Q:=Q_) (fun hp_=>?_) (fun hp_=>?_) <;> first|(exfalso;omega)|(refine hQ_ _ _ ?_;clear hQ_ Q_))|(refine zBx (Q:=Q_) (fun hp_=>?_) (fun hp_=>?_) <;> first|(exfalso;omega)|(refine hQ_ _ _ ?_;clear hQ_ Q_))|(refine hQ_ _ _ ?_;clear hQ_ Q_)))
  | (refine zHx fun K_ hK_=>?_;simp (disch:=omega) only [zGz,zAz,zHw,↓reduceIte,reduceCtorEq,Nat.reduceEqDiff,Nat.reduceLT];refine hK_ _ ?_;clear hK_ K_)))
  refine yYv (fun (q:Nat) f d h'=>q≤cnt T∧f 0 = .yld l∧f 1 = .ptr (nx h A) 0∧f 2 = .ptr (nx h p) 0∧f 4=ii (T.o0+(q:Int))∧d=[] ∧
    ∃ L J w,h'=X h (L++J) w∧I q L∧h.clock≤w∧w≤h.clock+L0.length∧(0<q→w<h.clock+L0.length)) (fun q=>cnt T - q) ?_ (cnt T+1) 0 (by omega) ?_
  · rintro q f d h' ⟨hq,g0,g1,g2,g4,rfl,L,J,w,rfl,hIq,hw1,hw2,hw3⟩
    obtain ⟨hL,hLA,o,hLp⟩:=hI q L hIq
    have l1:=fun J w=>(ldA hLA J w).2
    by_cases hlt:q<cnt T
    · have hp:=zSx hLp
      have hst : ∀ J w,store1 (nx h p) 3 (ii (T.o0+(q:Int))) (X h (L++J) w)=some (X h (L.set p (.cells (zBv (trC (cand T high (T.o0+(q:Int))))) 37)++J) (min (h.clock+p) w)):=fun J w=>by
        have e:storeAt (some (.cells (zBv (trC (cand T high o))) 37)) 3 (ii (T.o0+(q:Int)))=some (.cells (zBv (trC (cand T high (T.o0+(q:Int))))) 37):=by
          rw [xFx,show oneB (ii (T.o0+(q:Int)))=true from rfl,cond_true,if_pos (by show 3<6;decide),trC_set]
        rw [zFx wf,List.getElem?_append_left hp,hLp,e]
        show some (X h ((L++J).set p _) _)=_
        rw [List.set_append_left _ _ hp]
      have hI2:=hset q L (T.o0+(q:Int)) hIq
      generalize hL2:L.set p (.cells (zBv (trC (cand T high (T.o0+(q:Int))))) 37)=L2 at *
      have hLp2:L2[p]? = some (.cells (zBv (trC (cand T high (T.o0+(q:Int))))) 37):=by rw [← hL2,List.getElem?_set_self hp]
      have hl2 : ∀ J w,loadAgg (nx h p) 0 (some 6) (X h (L2++J) w)=some (.agg (trC (cand T high (T.o0+(q:Int))))):=fun J w=>by
        rw [zBw wf,List.getElem?_append_left (zSx hLp2),hLp2,xNw (by decide)]
        rfl
      have hlen2:=(hI q L2 hI2).1
      (repeat' (first
  | (with_reducible first|refine zJw ?_|refine zHz ?_|refine zFz ?_|refine zEv ?_|refine zFy ?_|refine zJv ?_|refine zHy ?_|refine zCz ?_|refine zDw ?_|refine zCy ?_|refine zCv ?_|refine zEx ?_|refine zDz ?_|refine zCx ?_|refine zBy ?_|refine zEz ?_|refine zEy ?_|refine zAv ?_|refine zBz ?_)
  | refine zDy ?_|refine zEw rfl ?_|refine zJy ?_|refine zJx ?_
  | ((first|refine zGv rfl rfl rfl rfl rfl fun K_ hK_=>?_|refine zGw rfl rfl rfl rfl rfl fun K_ hK_=>?_);simp only [zAz,zDx,zGx,↓reduceIte,reduceCtorEq,Nat.reduceEqDiff,Bool.not_true,Bool.not_false];refine hK_ _ ?_;clear hK_ K_)
  | refine zDv (by decide) ?_
  | ((try first|refine zKy rfl rfl rfl ?_|refine zJz rfl rfl ?_|refine zKx rfl rfl rfl ?_|refine zIw rfl rfl ?_);(refine zIv fun Q_ hQ_=>?_;simp (disch:=first|omega|(simp only [List.length_cons,List.length_nil,List.length_append];omega)) only [bb,bp,zLz,↓reduceIte,reduceCtorEq,Nat.reduceEqDiff,Nat.reduceLT,Nat.reduceLeDiff,Nat.reduceAdd,Nat.reduceMul,Nat.reduceSub,Nat.reduceBEq,Int.reduceToNat,cond_true,cond_false,eq_self,beq_self_eq_true,g0,g1,g2,g4,l1,hst,hl2,tEvD18,zIx,zIy,zIz,zHv,zFv,zAw wf];first|(refine zCw (Q:=Q_) (fun hp_=>?_) (fun hp_=>?_) <;> first|(exfalso;omega)|(refine hQ_ _ _ ?_;clear hQ_ Q_))|(refine zBx (Q:=Q_) (fun hp_=>?_) (fun hp_=>?_) <;> first|(exfalso;omega)|(refine hQ_ _ _ ?_;clear hQ_ Q_))|(refine hQ_ _ _ ?_;clear hQ_ Q_)))
  | (refine zHx fun K_ hK_=>?_;simp (disch:=omega) only [zGz,zAz,zHw,↓reduceIte,reduceCtorEq,Nat.reduceEqDiff,Nat.reduceLT];refine hK_ _ ?_;clear hK_ K_)))
      refine zKy rfl rfl rfl ?_
      refine zIv fun Q_ hQ_=>?_
      simp (disch:=first|omega|(simp only [List.length_cons,List.length_nil,List.length_append];omega)) only [bb,bp,zLz,↓reduceIte,reduceCtorEq,Nat.reduceEqDiff,Nat.reduceLT,Nat.reduceLeDiff,Nat.reduceAdd,Nat.reduceMul,Nat.reduceSub,Nat.reduceBEq,Int.reduceToNat,cond_true,cond_false,eq_self,beq_self_eq_true,g0,callV_yld,tEvD18,zIx,zIy,zIz,zHv,zFv,zAw wf]
      refine (hy q hlt L2 J _ hI2 (by omega) (by omega)).mono ?_
      rintro v h' ⟨L',J',w',rfl,hw4,hw5,hv⟩
      rcases hv with ⟨rfl,hI3⟩|⟨rfl,hl3,hD⟩
      · refine hQ_ _ _ ?_
        clear hQ_ Q_
        have hl4:=(hI (q+1) L' hI3).1
        (repeat' (first
  | (with_reducible first|refine zJw ?_|refine zHz ?_|refine zFz ?_|refine zEv ?_|refine zFy ?_|refine zJv ?_|refine zHy ?_|refine zCz ?_|refine zDw ?_|refine zCy ?_|refine zCv ?_|refine zEx ?_|refine zDz ?_|refine zCx ?_|refine zBy ?_|refine zEz ?_|refine zEy ?_|refine zAv ?_|refine zBz ?_)
  | refine zDy ?_|refine zEw rfl ?_|refine zJy ?_|refine zJx ?_
  | ((first|refine zGv rfl rfl rfl rfl rfl fun K_ hK_=>?_|refine zGw rfl rfl rfl rfl rfl fun K_ hK_=>?_);simp only [zAz,zDx,zGx,↓reduceIte,reduceCtorEq,Nat.reduceEqDiff,Bool.not_true,Bool.not_false];refine hK_ _ ?_;clear hK_ K_)
  | refine zDv (by decide) ?_
  | ((try first|refine zKy rfl rfl rfl ?_|refine zJz rfl rfl ?_|refine zKx rfl rfl rfl ?_|refine zIw rfl rfl ?_);(refine zIv fun Q_ hQ_=>?_;simp (disch:=first|omega|(simp only [List.length_cons,List.length_nil,List.length_append];omega)) only [bb,bp,zLz,↓reduceIte,reduceCtorEq,Nat.reduceEqDiff,Nat.reduceLT,Nat.reduceLeDiff,Nat.reduceAdd,Nat.reduceMul,Nat.reduceSub,Nat.reduceBEq,Int.reduceToNat,cond_true,cond_false,eq_self,beq_self_eq_true,g4,tEvD18,zIx,zIy,zIz,zHv,zFv,zAw wf];first|(refine zCw (Q:=Q_) (fun hp_=>?_) (fun hp_=>?_) <;> first|(exfalso;omega)|(refine hQ_ _ _ ?_;clear hQ_ Q_))|(refine zBx (Q:=Q_) (fun hp_=>?_) (fun hp_=>?_) <;> first|(exfalso;omega)|(refine hQ_ _ _ ?_;clear hQ_ Q_))|(refine hQ_ _ _ ?_;clear hQ_ Q_)))
  | (refine zHx fun K_ hK_=>?_;simp (disch:=omega) only [zGz,zAz,zHw,↓reduceIte,reduceCtorEq,Nat.reduceEqDiff,Nat.reduceLT];refine hK_ _ ?_;clear hK_ K_)))
        refine zLw (q+1) (by omega) ⟨hlt,by simp only [zAz,↓reduceIte,reduceCtorEq,Nat.reduceEqDiff];exact g0,by simp only [zAz,↓reduceIte,reduceCtorEq,Nat.reduceEqDiff];exact g1,by simp only [zAz,↓reduceIte,reduceCtorEq,Nat.reduceEqDiff];exact g2,by simp only [zAz,↓reduceIte,reduceCtorEq,Nat.reduceEqDiff];rw [Int.natCast_add,← Int.add_assoc];rfl,rfl,L',J++J',w',rfl,hI3,hw4,by omega,fun _=>hw5⟩
      · refine hQ_ _ _ ?_
        clear hQ_ Q_
        (repeat' (first
  | (with_reducible first|refine zJw ?_|refine zHz ?_|refine zFz ?_|refine zEv ?_|refine zFy ?_|refine zJv ?_|refine zHy ?_|refine zCz ?_|refine zDw ?_|refine zCy ?_|refine zCv ?_|refine zEx ?_|refine zDz ?_|refine zCx ?_|refine zBy ?_|refine zEz ?_|refine zEy ?_|refine zAv ?_|refine zBz ?_)
  | refine zDy ?_|refine zEw rfl ?_|refine zJy ?_|refine zJx ?_
  | ((first|refine zGv rfl rfl rfl rfl rfl fun K_ hK_=>?_|refine zGw rfl rfl rfl rfl rfl fun K_ hK_=>?_);simp only [zAz,zDx,zGx,↓reduceIte,reduceCtorEq,Nat.reduceEqDiff,Bool.not_true,Bool.not_false];refine hK_ _ ?_;clear hK_ K_)
  | refine zDv (by decide) ?_
  | ((try first|refine zKy rfl rfl rfl ?_|refine zJz rfl rfl ?_|refine zKx rfl rfl rfl ?_|refine zIw rfl rfl ?_);(refine zIv fun Q_ hQ_=>?_;simp (disch:=first|omega|(simp only [List.length_cons,List.length_nil,List.length_append];omega)) only [bb,bp,zLz,↓reduceIte,reduceCtorEq,Nat.reduceEqDiff,Nat.reduceLT,Nat.reduceLeDiff,Nat.reduceAdd,Nat.reduceMul,Nat.reduceSub,Nat.reduceBEq,Int.reduceToNat,cond_true,cond_false,eq_self,beq_self_eq_true,g4,tEvD18,zIx,zIy,zIz,zHv,zFv,zAw wf];first|(refine zCw (Q:=Q_) (fun hp_=>?_) (fun hp_=>?_) <;> first|(exfalso;omega)|(refine hQ_ _ _ ?_;clear hQ_ Q_))|(refine zBx (Q:=Q_) (fun hp_=>?_) (fun hp_=>?_) <;> first|(exfalso;omega)|(refine hQ_ _ _ ?_;clear hQ_ Q_))|(refine hQ_ _ _ ?_;clear hQ_ Q_)))
  | (refine zHx fun K_ hK_=>?_;simp (disch:=omega) only [zGz,zAz,zHw,↓reduceIte,reduceCtorEq,Nat.reduceEqDiff,Nat.reduceLT];refine hK_ _ ?_;clear hK_ K_)))
        refine zKz _ (.tup []) rfl rfl ?_
        rw [← X_X h L' (J++J') w' w']
        refine WV_out (by rw [xUx];exact hw5) ?_
        rw [X_X,X_w]
        exact ⟨L',J++J',_,rfl,by omega,by omega,.inr ⟨hl3,hD⟩⟩
    · have hqe:q=cnt T:=by omega
      subst hqe
      (repeat' (first
  | (with_reducible first|refine zJw ?_|refine zHz ?_|refine zFz ?_|refine zEv ?_|refine zFy ?_|refine zJv ?_|refine zHy ?_|refine zCz ?_|refine zDw ?_|refine zCy ?_|refine zCv ?_|refine zEx ?_|refine zDz ?_|refine zCx ?_|refine zBy ?_|refine zEz ?_|refine zEy ?_|refine zAv ?_|refine zBz ?_)
  | refine zDy ?_|refine zEw rfl ?_|refine zJy ?_|refine zJx ?_
  | ((first|refine zGv rfl rfl rfl rfl rfl fun K_ hK_=>?_|refine zGw rfl rfl rfl rfl rfl fun K_ hK_=>?_);simp only [zAz,zDx,zGx,↓reduceIte,reduceCtorEq,Nat.reduceEqDiff,Bool.not_true,Bool.not_false];refine hK_ _ ?_;clear hK_ K_)
  | refine zDv (by decide) ?_
  | ((try first|refine zKy rfl rfl rfl ?_|refine zJz rfl rfl ?_|refine zKx rfl rfl rfl ?_|refine zIw rfl rfl ?_);(refine zIv fun Q_ hQ_=>?_;simp (disch:=first|omega|(simp only [List.length_cons,List.length_nil,List.length_append];omega)) only [bb,bp,zLz,↓reduceIte,reduceCtorEq,Nat.reduceEqDiff,Nat.reduceLT,Nat.reduceLeDiff,Nat.reduceAdd,Nat.reduceMul,Nat.reduceSub,Nat.reduceBEq,Int.reduceToNat,cond_true,cond_false,eq_self,beq_self_eq_true,g0,g1,g2,g4,l1,tEvD18,zIx,zIy,zIz,zHv,zFv,zAw wf];first|(refine zCw (Q:=Q_) (fun hp_=>?_) (fun hp_=>?_) <;> first|(exfalso;omega)|(refine hQ_ _ _ ?_;clear hQ_ Q_))|(refine zBx (Q:=Q_) (fun hp_=>?_) (fun hp_=>?_) <;> first|(exfalso;omega)|(refine hQ_ _ _ ?_;clear hQ_ Q_))|(refine hQ_ _ _ ?_;clear hQ_ Q_)))
  | (refine zHx fun K_ hK_=>?_;simp (disch:=omega) only [zGz,zAz,zHw,↓reduceIte,reduceCtorEq,Nat.reduceEqDiff,Nat.reduceLT];refine hK_ _ ?_;clear hK_ K_)))
      refine endQ_norm _ (.tup []) rfl rfl ?_
      rw [← X_X h L J w w]
      refine WV_out (by rw [xUx];exact hw3 (by unfold cnt;omega)) ?_
      rw [X_X,X_w]
      exact ⟨L,J,_,rfl,by omega,by omega,.inl hIq⟩
  · exact ⟨Nat.zero_le _,by simp only [zAz,↓reduceIte,reduceCtorEq,Nat.reduceEqDiff],by simp only [zAz,↓reduceIte,reduceCtorEq,Nat.reduceEqDiff],by simp only [zAz,↓reduceIte,reduceCtorEq,Nat.reduceEqDiff],by simp only [zAz,↓reduceIte,reduceCtorEq,Nat.reduceEqDiff];simp,rfl,L0,[],_,by rw [X_X],h0,by rw [xUx];omega,by rw [xUx];omega,fun h=>absurd h (Nat.lt_irrefl _)⟩
end Go.Proofs.Ythaleckfgcgegaa
end

section
namespace Go.Proofs.Ythaleckfgcgegaa
open Go.Ev
set_option maxRecDepth 100000
set_option linter.unusedSimpArgs false
set_option linter.unusedVariables false
set_option maxHeartbeats 2000000
theorem tEvD19 :type_of% (And.intro (And.intro (And.intro (And.intro (And.intro (And.intro (And.intro (@yXx) (@yXy)) (And.intro (@yXz) (And.intro (@yWv) (@yWw)))) (And.intro (And.intro (@yWx) (And.intro (@yWy) (@yWz))) (And.intro (@zWz) (And.intro (@ia_2) (@sz_2))))) (And.intro (And.intro (And.intro (@ia_3) (@sz_3)) (And.intro (@ia_4) (And.intro (@sz_4) (@yVv)))) (And.intro (And.intro (@yFz) (And.intro (@yVw) (@yEv))) (And.intro (@yVx) (And.intro (@yEw) (@yVy)))))) (And.intro (And.intro (And.intro (And.intro (@yEx) (@yVz)) (And.intro (@yEy) (And.intro (@yUv) (@yEz)))) (And.intro (And.intro (@yUw) (And.intro (@yDv) (@yUx))) (And.intro (@yDw) (And.intro (@yUy) (@yDx))))) (And.intro (And.intro (And.intro (@yUz) (And.intro (@yDy) (@yTv))) (And.intro (@zYy) (And.intro (@yTw) (@yDz)))) (And.intro (And.intro (@yTx) (And.intro (@yCv) (@yTy))) (And.intro (@yCw) (And.intro (@yTz) (@yCx))))))) (And.intro (And.intro (And.intro (And.intro (And.intro (@ySv) (@yCy)) (And.intro (@ySw) (And.intro (@yCz) (@ySx)))) (And.intro (And.intro (@yBv) (And.intro (@ySy) (@yBw))) (And.intro (@ySz) (And.intro (@yBx) (@yRv))))) (And.intro (And.intro (And.intro (@yBy) (@zVv)) (And.intro (@zUx) (And.intro (@zVw) (@zUy)))) (And.intro (And.intro (@zVx) (And.intro (@zUz) (@zVy))) (And.intro (@zTv) (And.intro (@zVz) (@zTw)))))) (And.intro (And.intro (And.intro (And.intro (@zUv) (@zTx)) (And.intro (@zUw) (And.intro (@zTy) (@ze_2)))) (And.intro (And.intro (@ze_3) (And.intro (@ze_4) (@yBz))) (And.intro (@yAv) (And.intro (@yAw) (@yAx))))) (And.intro (And.intro (And.intro (@yAy) (And.intro (@yAz) (@xZv))) (And.intro (@zZv) (And.intro (@zZw) (@zZx)))) (And.intro (And.intro (@zTz) (And.intro (@zSz) (@zRv))) (And.intro (@zRw) (And.intro (@zRx) (@zRy)))))))) (And.intro (And.intro (And.intro (And.intro (And.intro (And.intro (@zRz) (@zQv)) (And.intro (@zQw) (And.intro (@zQx) (@zQy)))) (And.intro (And.intro (@zQz) (And.intro (@zPv) (@zPw))) (And.intro (@zPx) (And.intro (@zPy) (@zPz))))) (And.intro (And.intro (And.intro (@zOv) (@zOw)) (And.intro (@zOx) (And.intro (@zOy) (@zOz)))) (And.intro (And.intro (@zNv) (And.intro (@zNw) (@zNx))) (And.intro (@zNy) (And.intro (@zNz) (@zMv)))))) (And.intro (And.intro (And.intro (And.intro (@zMw) (@yRw)) (And.intro (@yRx) (And.intro (@yRy) (@yRz)))) (And.intro (And.intro (@yQv) (And.intro (@yQw) (@yQx))) (And.intro (@yQy) (And.intro (@yQz) (@yPv))))) (And.intro (And.intro (And.intro (@yPw) (And.intro (@yPx) (@yPy))) (And.intro (@yPz) (And.intro (@yOv) (@yOw)))) (And.intro (And.intro (@yOx) (And.intro (@yOy) (@yOz))) (And.intro (@yNv) (And.intro (@yNw) (@yNx))))))) (And.intro (And.intro (And.intro (And.intro (And.intro (@yNy) (@yNz)) (And.intro (@yMv) (And.intro (@yMw) (@yMx)))) (And.intro (And.intro (@yMy) (And.intro (@yMz) (@yLv))) (And.intro (@yLw) (And.intro (@yLx) (@yLy))))) (And.intro (And.intro (And.intro (@yLz) (@yKv)) (And.intro (@yKw) (And.intro (@yKx) (@yKy)))) (And.intro (And.intro (@yKz) (And.intro (@yJv) (@yJw))) (And.intro (@yJx) (And.intro (@yJy) (@yJz)))))) (And.intro (And.intro (And.intro (And.intro (@yIv) (@yIw)) (And.intro (@yIx) (And.intro (@yIy) (@yIz)))) (And.intro (And.intro (@yHv) (And.intro (@zZy) (@zZz))) (And.intro (@yHw) (And.intro (@yHx) (@yHy))))) (And.intro (And.intro (And.intro (@yHz) (And.intro (@yGv) (@yGw))) (And.intro (@yGx) (And.intro (@yGy) (@yGz)))) (And.intro (And.intro (@yFv) (And.intro (@yFw) (@zYv))) (And.intro (@yFx) (And.intro (@yFy) (@zYw))))))))):=And.intro (And.intro (And.intro (And.intro (And.intro (And.intro (And.intro (@yXx) (@yXy)) (And.intro (@yXz) (And.intro (@yWv) (@yWw)))) (And.intro (And.intro (@yWx) (And.intro (@yWy) (@yWz))) (And.intro (@zWz) (And.intro (@ia_2) (@sz_2))))) (And.intro (And.intro (And.intro (@ia_3) (@sz_3)) (And.intro (@ia_4) (And.intro (@sz_4) (@yVv)))) (And.intro (And.intro (@yFz) (And.intro (@yVw) (@yEv))) (And.intro (@yVx) (And.intro (@yEw) (@yVy)))))) (And.intro (And.intro (And.intro (And.intro (@yEx) (@yVz)) (And.intro (@yEy) (And.intro (@yUv) (@yEz)))) (And.intro (And.intro (@yUw) (And.intro (@yDv) (@yUx))) (And.intro (@yDw) (And.intro (@yUy) (@yDx))))) (And.intro (And.intro (And.intro (@yUz) (And.intro (@yDy) (@yTv))) (And.intro (@zYy) (And.intro (@yTw) (@yDz)))) (And.intro (And.intro (@yTx) (And.intro (@yCv) (@yTy))) (And.intro (@yCw) (And.intro (@yTz) (@yCx))))))) (And.intro (And.intro (And.intro (And.intro (And.intro (@ySv) (@yCy)) (And.intro (@ySw) (And.intro (@yCz) (@ySx)))) (And.intro (And.intro (@yBv) (And.intro (@ySy) (@yBw))) (And.intro (@ySz) (And.intro (@yBx) (@yRv))))) (And.intro (And.intro (And.intro (@yBy) (@zVv)) (And.intro (@zUx) (And.intro (@zVw) (@zUy)))) (And.intro (And.intro (@zVx) (And.intro (@zUz) (@zVy))) (And.intro (@zTv) (And.intro (@zVz) (@zTw)))))) (And.intro (And.intro (And.intro (And.intro (@zUv) (@zTx)) (And.intro (@zUw) (And.intro (@zTy) (@ze_2)))) (And.intro (And.intro (@ze_3) (And.intro (@ze_4) (@yBz))) (And.intro (@yAv) (And.intro (@yAw) (@yAx))))) (And.intro (And.intro (And.intro (@yAy) (And.intro (@yAz) (@xZv))) (And.intro (@zZv) (And.intro (@zZw) (@zZx)))) (And.intro (And.intro (@zTz) (And.intro (@zSz) (@zRv))) (And.intro (@zRw) (And.intro (@zRx) (@zRy)))))))) (And.intro (And.intro (And.intro (And.intro (And.intro (And.intro (@zRz) (@zQv)) (And.intro (@zQw) (And.intro (@zQx) (@zQy)))) (And.intro (And.intro (@zQz) (And.intro (@zPv) (@zPw))) (And.intro (@zPx) (And.intro (@zPy) (@zPz))))) (And.intro (And.intro (And.intro (@zOv) (@zOw)) (And.intro (@zOx) (And.intro (@zOy) (@zOz)))) (And.intro (And.intro (@zNv) (And.intro (@zNw) (@zNx))) (And.intro (@zNy) (And.intro (@zNz) (@zMv)))))) (And.intro (And.intro (And.intro (And.intro (@zMw) (@yRw)) (And.intro (@yRx) (And.intro (@yRy) (@yRz)))) (And.intro (And.intro (@yQv) (And.intro (@yQw) (@yQx))) (And.intro (@yQy) (And.intro (@yQz) (@yPv))))) (And.intro (And.intro (And.intro (@yPw) (And.intro (@yPx) (@yPy))) (And.intro (@yPz) (And.intro (@yOv) (@yOw)))) (And.intro (And.intro (@yOx) (And.intro (@yOy) (@yOz))) (And.intro (@yNv) (And.intro (@yNw) (@yNx))))))) (And.intro (And.intro (And.intro (And.intro (And.intro (@yNy) (@yNz)) (And.intro (@yMv) (And.intro (@yMw) (@yMx)))) (And.intro (And.intro (@yMy) (And.intro (@yMz) (@yLv))) (And.intro (@yLw) (And.intro (@yLx) (@yLy))))) (And.intro (And.intro (And.intro (@yLz) (@yKv)) (And.intro (@yKw) (And.intro (@yKx) (@yKy)))) (And.intro (And.intro (@yKz) (And.intro (@yJv) (@yJw))) (And.intro (@yJx) (And.intro (@yJy) (@yJz)))))) (And.intro (And.intro (And.intro (And.intro (@yIv) (@yIw)) (And.intro (@yIx) (And.intro (@yIy) (@yIz)))) (And.intro (And.intro (@yHv) (And.intro (@zZy) (@zZz))) (And.intro (@yHw) (And.intro (@yHx) (@yHy))))) (And.intro (And.intro (And.intro (@yHz) (And.intro (@yGv) (@yGw))) (And.intro (@yGx) (And.intro (@yGy) (@yGz)))) (And.intro (And.intro (@yFv) (And.intro (@yFw) (@zYv))) (And.intro (@yFx) (And.intro (@yFy) (@zYw))))))))
def bst (high:Bool) (g:Nat→Int):Nat→Int
  | 0=>0
  | q+1=>if q=0 then g 0 else if high=true then max (bst high g q) (g q) else min (bst high g q) (g q)
def cg (T:Te) (re cf:List Int) (high:Bool) (q:Nat):Int:=coef T re cf (cand T high (T.o0+(q:Int)))
def endv (T:Te) (re cf:List Int) (high:Bool):Int:=bst high (cg T re cf high) (cnt T)
theorem wBy {high:Bool} {g:Nat→Int} : bst high g 1=g 0:=by unfold bst;rw [if_pos rfl]
theorem bst_hi {g:Nat→Int} {q:Nat} (hq:q≠0):bst true g (q+1)=max (bst true g q) (g q):=by conv=>lhs;unfold bst;rw [if_neg hq,if_pos rfl]
theorem bst_lo {g:Nat→Int} {q:Nat} (hq:q≠0):bst false g (q+1)=min (bst false g q) (g q):=by conv=>lhs;unfold bst;rw [if_neg hq,if_neg (by decide)]

theorem endC (T:Te) (k:okT T) (lv:AV) (hf:AV.cells lv=[lv]∧oneB lv=true) (a b:AV) (re cf:List Int) (kl:okL re cf) (hin:inAll T re) (high:Bool) (h:H) (y:LineR h a b re cf) :
    (om Try.prog KK).call (.fn 72 [.agg [ii T.sp,ii T.lo,ii T.we,ii T.al,ii T.f0,ii T.f1,ii T.t0,ii T.t1,ii T.s0,ii T.s1,ii T.o0,ii T.o1,ii T.b0,ii T.b1,ii T.r0,ii T.r1,lv],.agg [a,b],.bool high]) h = .ok (ii (endv T re cf high)) h:=by
  have wf:=y.wf
  obtain ⟨f1,f2⟩:=hf
  obtain ⟨⟨fa,fa'⟩,⟨fb,fb'⟩⟩:=y.flats
  have ko:=k.o
  have hcnt:(cnt T:Int)=T.o1 - T.o0+1:=by unfold cnt;omega
  refine zWv (zLx (fn:=Try.f72) Try.func72 rfl rfl rfl rfl rfl ?_)
  simp only [zLz]
  (repeat' (first
  | (with_reducible first|refine zJw ?_|refine zHz ?_|refine zFz ?_|refine zEv ?_|refine zFy ?_|refine zJv ?_|refine zHy ?_|refine zCz ?_|refine zDw ?_|refine zCy ?_|refine zCv ?_|refine zEx ?_|refine zDz ?_|refine zCx ?_|refine zBy ?_|refine zEz ?_|refine zEy ?_|refine zAv ?_|refine zBz ?_)
  | refine zDy ?_|refine zEw rfl ?_|refine zJy ?_|refine zJx ?_
  | ((first|refine zGv rfl rfl rfl rfl rfl fun K_ hK_=>?_|refine zGw rfl rfl rfl rfl rfl fun K_ hK_=>?_);simp only [zAz,zDx,zGx,↓reduceIte,reduceCtorEq,Nat.reduceEqDiff,Bool.not_true,Bool.not_false];refine hK_ _ ?_;clear hK_ K_)
  | refine zDv (by decide) ?_
  | ((try first|refine zKy rfl rfl rfl ?_|refine zJz rfl rfl ?_|refine zKx rfl rfl rfl ?_|refine zIw rfl rfl ?_);(refine zIv fun Q_ hQ_=>?_;simp (disch:=first|omega|(simp only [List.length_cons,List.length_nil,List.length_append];omega)) only [bb,bp,zLz,↓reduceIte,reduceCtorEq,Nat.reduceEqDiff,Nat.reduceLT,Nat.reduceLeDiff,Nat.reduceAdd,Nat.reduceMul,Nat.reduceSub,Nat.reduceBEq,Int.reduceToNat,cond_true,cond_false,eq_self,beq_self_eq_true,f1,f2,fa,fb,fa',fb',zFw wf,zGy wf,zBw wf,zFx wf,zAy wf,zAx,tEvD19,zIx,zIy,zIz,zHv,zFv,zAw wf];first|(refine zCw (Q:=Q_) (fun hp_=>?_) (fun hp_=>?_) <;> first|(exfalso;omega)|(refine hQ_ _ _ ?_;clear hQ_ Q_))|(refine zBx (Q:=Q_) (fun hp_=>?_) (fun hp_=>?_) <;> first|(exfalso;omega)|(refine hQ_ _ _ ?_;clear hQ_ Q_))|(refine hQ_ _ _ ?_;clear hQ_ Q_)|(refine zLv (candidates T lv ⟨f1,f2⟩ high h wf _ _ (by simp only [List.length_append,List.length_cons,List.length_nil];omega)) ?_;refine hQ_ _ _ ?_;clear hQ_ Q_)))
  | (refine zHx fun K_ hK_=>?_;simp (disch:=omega) only [zGz,zAz,zHw,↓reduceIte,reduceCtorEq,Nat.reduceEqDiff,Nat.reduceLT];refine hK_ _ ?_;clear hK_ K_)))
  simp only [List.length_cons,List.length_nil,List.cons_append,List.nil_append,Nat.reduceAdd]
  refine xQw wf rfl (zGz (by decide)) fun o ho=>?_
  simp only [zAz,↓reduceIte,reduceCtorEq,Nat.reduceEqDiff,List.length_cons,List.length_nil,List.cons_append,List.nil_append,Nat.reduceAdd]
  refine WV.mono (cands T k lv high wf 6 8 (nx h 10) _ h.clock (Nat.le_add_right _ _) (Nat.le_refl _) (fun q L=>∃ oo,L=[.cells (zBv [ii T.sp,ii T.lo,ii T.we,ii T.al,ii T.f0,ii T.f1,ii T.t0,ii T.t1,ii T.s0,ii T.s1,ii T.o0,ii T.o1,ii T.b0,ii T.b1,ii T.r0,ii T.r1,lv]) 76,.cells (zBv [a,b]) 67,.cells (zBv [.bool high]) 4,.cells (zBv [.fn 39 [.agg [a,b]] []]) 69,.cells (zBv [ii (bst high (cg T re cf high) q)]) 2,.cells (zBv [.bool (decide (q=0))]) 4,.cells (zBv [ii T.sp,ii T.lo,ii T.we,ii T.al,ii T.f0,ii T.f1,ii T.t0,ii T.t1,ii T.s0,ii T.s1,ii T.o0,ii T.o1,ii T.b0,ii T.b1,ii T.r0,ii T.r1,lv]) 76,.cells (zBv [.bool high]) 4,.cells (zBv (trC (cand T high oo))) 37,.dfr,o])
    (fun _=>False) ?_ ?_ ?_ ⟨0,rfl⟩) ?_
  · rintro q L ⟨oo,rfl⟩
    exact ⟨rfl,rfl,oo,rfl⟩
  · rintro q L o' ⟨oo,rfl⟩
    exact ⟨o',rfl⟩
  · rintro q hq L J w ⟨oo,rfl⟩ hw1 hw2
    have hw2':w≤h.clock+(11+J.length):=hw2
    have kx:=xQy k high (o:=T.o0+(q:Int)) ⟨by omega,by omega⟩
    have hxi:=wAx k hin kx
    have hgq:cg T re cf high q=coef T re cf (cand T high (T.o0+(q:Int))):=rfl
    simp only [List.cons_append,List.nil_append]
    unfold trC
    generalize hxo:cand T high oo=xo at *
    generalize cand T high (T.o0+(q:Int))=x at *
    generalize hcg:cg T re cf high=g at *
    refine WV_yldX wf (k:=10) rfl ho (setParams1 rfl) ?_
    (repeat' (first
  | (with_reducible first|refine zJw ?_|refine zHz ?_|refine zFz ?_|refine zEv ?_|refine zFy ?_|refine zJv ?_|refine zHy ?_|refine zCz ?_|refine zDw ?_|refine zCy ?_|refine zCv ?_|refine zEx ?_|refine zDz ?_|refine zCx ?_|refine zBy ?_|refine zEz ?_|refine zEy ?_|refine zAv ?_|refine zBz ?_)
  | refine zDy ?_|refine zEw rfl ?_|refine zJy ?_|refine zJx ?_
  | ((first|refine zGv rfl rfl rfl rfl rfl fun K_ hK_=>?_|refine zGw rfl rfl rfl rfl rfl fun K_ hK_=>?_);simp only [zAz,zDx,zGx,↓reduceIte,reduceCtorEq,Nat.reduceEqDiff,Bool.not_true,Bool.not_false];refine hK_ _ ?_;clear hK_ K_)
  | refine zDv (by decide) ?_
  | ((try first|refine zKy rfl rfl rfl ?_|refine zJz rfl rfl ?_|refine zKx rfl rfl rfl ?_|refine zIw rfl rfl ?_);(refine zIv fun Q_ hQ_=>?_;simp (disch:=first|omega|(simp only [List.length_cons,List.length_nil,List.length_append];omega)) only [bb,bp,zLz,↓reduceIte,reduceCtorEq,Nat.reduceEqDiff,Nat.reduceLT,Nat.reduceLeDiff,Nat.reduceAdd,Nat.reduceMul,Nat.reduceSub,Nat.reduceBEq,Int.reduceToNat,cond_true,cond_false,eq_self,beq_self_eq_true,zFw wf,zGy wf,zBw wf,zFx wf,zAy wf,zAx,tEvD19,zIx,zIy,zIz,zHv,zFv,zAw wf];first|(refine zCw (Q:=Q_) (fun hp_=>?_) (fun hp_=>?_) <;> first|(exfalso;omega)|(refine hQ_ _ _ ?_;clear hQ_ Q_))|(refine zBx (Q:=Q_) (fun hp_=>?_) (fun hp_=>?_) <;> first|(exfalso;omega)|(refine hQ_ _ _ ?_;clear hQ_ Q_))|(refine hQ_ _ _ ?_;clear hQ_ Q_)))
  | (refine zHx fun K_ hK_=>?_;simp (disch:=omega) only [zGz,zAz,zHw,↓reduceIte,reduceCtorEq,Nat.reduceEqDiff,Nat.reduceLT];refine hK_ _ ?_;clear hK_ K_)))
    refine yldA_X wf (k:=10) rfl ho fun o' ho'=>?_
    have hgx:g q=coef T re cf x:=hgq
    have hcx:=coefficient T k lv ⟨f1,f2⟩ a b re cf kl x kx hxi.1 hxi.2
    rw [← hgx] at hcx
    by_cases hq0:q=0
    · have hd0:decide (q=0)=true:=decide_eq_true hq0
      (repeat' (first
  | (with_reducible first|refine zJw ?_|refine zHz ?_|refine zFz ?_|refine zEv ?_|refine zFy ?_|refine zJv ?_|refine zHy ?_|refine zCz ?_|refine zDw ?_|refine zCy ?_|refine zCv ?_|refine zEx ?_|refine zDz ?_|refine zCx ?_|refine zBy ?_|refine zEz ?_|refine zEy ?_|refine zAv ?_|refine zBz ?_)
  | refine zDy ?_|refine zEw rfl ?_|refine zJy ?_|refine zJx ?_
  | ((first|refine zGv rfl rfl rfl rfl rfl fun K_ hK_=>?_|refine zGw rfl rfl rfl rfl rfl fun K_ hK_=>?_);simp only [zAz,zDx,zGx,↓reduceIte,reduceCtorEq,Nat.reduceEqDiff,Bool.not_true,Bool.not_false];refine hK_ _ ?_;clear hK_ K_)
  | refine zDv (by decide) ?_
  | ((try first|refine zKy rfl rfl rfl ?_|refine zJz rfl rfl ?_|refine zKx rfl rfl rfl ?_|refine zIw rfl rfl ?_);(refine zIv fun Q_ hQ_=>?_;simp (disch:=first|omega|(simp only [List.length_cons,List.length_nil,List.length_append];omega)) only [bb,bp,zLz,↓reduceIte,reduceCtorEq,Nat.reduceEqDiff,Nat.reduceLT,Nat.reduceLeDiff,Nat.reduceAdd,Nat.reduceMul,Nat.reduceSub,Nat.reduceBEq,Int.reduceToNat,cond_true,cond_false,eq_self,beq_self_eq_true,f1,f2,fa,fb,fa',fb',hd0,zFw wf,zGy wf,zBw wf,zFx wf,zAy wf,zAx,tEvD19,zIx,zIy,zIz,zHv,zFv,zAw wf];first|(refine zCw (Q:=Q_) (fun hp_=>?_) (fun hp_=>?_) <;> first|(exfalso;omega)|(refine hQ_ _ _ ?_;clear hQ_ Q_))|(refine zBx (Q:=Q_) (fun hp_=>?_) (fun hp_=>?_) <;> first|(exfalso;omega)|(refine hQ_ _ _ ?_;clear hQ_ Q_))|(refine hQ_ _ _ ?_;clear hQ_ Q_)|(refine zLv (hcx _ (y.up _ _ (by simp only [List.length_append,List.length_cons,List.length_nil];omega))) ?_;refine hQ_ _ _ ?_;clear hQ_ Q_)))
  | (refine zHx fun K_ hK_=>?_;simp (disch:=omega) only [zGz,zAz,zHw,↓reduceIte,reduceCtorEq,Nat.reduceEqDiff,Nat.reduceLT];refine hK_ _ ?_;clear hK_ K_)))
      have e:bst high g (q+1)=g q:=by rw [hq0,wBy]
      have e2:decide (q+1=0)=false:=decide_eq_false (by omega)
      refine yldB_X wf (k:=10) rfl ho' ?_
      simp only [List.set_cons_succ,List.set_cons_zero]
      rw [← ho]
      refine ⟨[.cells (zBv [ii T.sp,ii T.lo,ii T.we,ii T.al,ii T.f0,ii T.f1,ii T.t0,ii T.t1,ii T.s0,ii T.s1,ii T.o0,ii T.o1,ii T.b0,ii T.b1,ii T.r0,ii T.r1,lv]) 76,.cells (zBv [a,b]) 67,.cells (zBv [.bool high]) 4,.cells (zBv [.fn 39 [.agg [a,b]] []]) 69,.cells (zBv [ii (bst high g (q+1))]) 2,.cells (zBv [.bool (decide (q+1=0))]) 4,.cells (zBv [ii T.sp,ii T.lo,ii T.we,ii T.al,ii T.f0,ii T.f1,ii T.t0,ii T.t1,ii T.s0,ii T.s1,ii T.o0,ii T.o1,ii T.b0,ii T.b1,ii T.r0,ii T.r1,lv]) 76,.cells (zBv [.bool high]) 4,.cells (zBv [ii xo.f,ii xo.t,ii xo.s,ii xo.o,ii xo.b,ii xo.r]) 37,.dfr,o],[.cells (zBv [ii x.f,ii x.t,ii x.s,ii x.o,ii x.b,ii x.r]) 37],_,by rw [e,e2];rfl,by omega,?_,.inl ⟨by first|rfl|trivial,oo,by rw [hxo]⟩⟩
      show _<h.clock+11
      omega
    · have hd0:decide (q=0)=false:=decide_eq_false hq0
      cases high
      · (repeat' (first
  | (with_reducible first|refine zJw ?_|refine zHz ?_|refine zFz ?_|refine zEv ?_|refine zFy ?_|refine zJv ?_|refine zHy ?_|refine zCz ?_|refine zDw ?_|refine zCy ?_|refine zCv ?_|refine zEx ?_|refine zDz ?_|refine zCx ?_|refine zBy ?_|refine zEz ?_|refine zEy ?_|refine zAv ?_|refine zBz ?_)
  | refine zDy ?_|refine zEw rfl ?_|refine zJy ?_|refine zJx ?_
  | ((first|refine zGv rfl rfl rfl rfl rfl fun K_ hK_=>?_|refine zGw rfl rfl rfl rfl rfl fun K_ hK_=>?_);simp only [zAz,zDx,zGx,↓reduceIte,reduceCtorEq,Nat.reduceEqDiff,Bool.not_true,Bool.not_false];refine hK_ _ ?_;clear hK_ K_)
  | refine zDv (by decide) ?_
  | ((try first|refine zKy rfl rfl rfl ?_|refine zJz rfl rfl ?_|refine zKx rfl rfl rfl ?_|refine zIw rfl rfl ?_);(refine zIv fun Q_ hQ_=>?_;simp (disch:=first|omega|(simp only [List.length_cons,List.length_nil,List.length_append];omega)) only [bb,bp,zLz,↓reduceIte,reduceCtorEq,Nat.reduceEqDiff,Nat.reduceLT,Nat.reduceLeDiff,Nat.reduceAdd,Nat.reduceMul,Nat.reduceSub,Nat.reduceBEq,Int.reduceToNat,cond_true,cond_false,eq_self,beq_self_eq_true,f1,f2,fa,fb,fa',fb',hd0,zFw wf,zGy wf,zBw wf,zFx wf,zAy wf,zAx,tEvD19,zIx,zIy,zIz,zHv,zFv,zAw wf];first|(refine zCw (Q:=Q_) (fun hp_=>?_) (fun hp_=>?_) <;> first|(exfalso;omega)|(refine hQ_ _ _ ?_;clear hQ_ Q_))|(refine zBx (Q:=Q_) (fun hp_=>?_) (fun hp_=>?_) <;> first|(exfalso;omega)|(refine hQ_ _ _ ?_;clear hQ_ Q_))|(refine hQ_ _ _ ?_;clear hQ_ Q_)|(refine zLv (hcx _ (y.up _ _ (by simp only [List.length_append,List.length_cons,List.length_nil];omega))) ?_;refine hQ_ _ _ ?_;clear hQ_ Q_)))
  | (refine zHx fun K_ hK_=>?_;simp (disch:=omega) only [zGz,zAz,zHw,↓reduceIte,reduceCtorEq,Nat.reduceEqDiff,Nat.reduceLT];refine hK_ _ ?_;clear hK_ K_)))
        · have e:bst false g (q+1)=g q:=by rw [bst_lo hq0];omega
          have e2:decide (q+1=0)=false:=decide_eq_false (by omega)
          refine yldB_X wf (k:=10) rfl ho' ?_
          simp only [List.set_cons_succ,List.set_cons_zero]
          rw [← ho]
          refine ⟨[.cells (zBv [ii T.sp,ii T.lo,ii T.we,ii T.al,ii T.f0,ii T.f1,ii T.t0,ii T.t1,ii T.s0,ii T.s1,ii T.o0,ii T.o1,ii T.b0,ii T.b1,ii T.r0,ii T.r1,lv]) 76,.cells (zBv [a,b]) 67,.cells (zBv [.bool false]) 4,.cells (zBv [.fn 39 [.agg [a,b]] []]) 69,.cells (zBv [ii (bst false g (q+1))]) 2,.cells (zBv [.bool (decide (q+1=0))]) 4,.cells (zBv [ii T.sp,ii T.lo,ii T.we,ii T.al,ii T.f0,ii T.f1,ii T.t0,ii T.t1,ii T.s0,ii T.s1,ii T.o0,ii T.o1,ii T.b0,ii T.b1,ii T.r0,ii T.r1,lv]) 76,.cells (zBv [.bool false]) 4,.cells (zBv [ii xo.f,ii xo.t,ii xo.s,ii xo.o,ii xo.b,ii xo.r]) 37,.dfr,o],[.cells (zBv [ii x.f,ii x.t,ii x.s,ii x.o,ii x.b,ii x.r]) 37],_,by rw [e,e2];rfl,by omega,?_,.inl ⟨by first|rfl|trivial,oo,by rw [hxo]⟩⟩
          show _<h.clock+11
          omega
        · have e:bst false g (q+1)=bst false g q:=by rw [bst_lo hq0];omega
          have e2:decide (q+1=0)=false:=decide_eq_false (by omega)
          refine yldB_X wf (k:=10) rfl ho' ?_
          simp only [List.set_cons_succ,List.set_cons_zero]
          rw [← ho]
          refine ⟨[.cells (zBv [ii T.sp,ii T.lo,ii T.we,ii T.al,ii T.f0,ii T.f1,ii T.t0,ii T.t1,ii T.s0,ii T.s1,ii T.o0,ii T.o1,ii T.b0,ii T.b1,ii T.r0,ii T.r1,lv]) 76,.cells (zBv [a,b]) 67,.cells (zBv [.bool false]) 4,.cells (zBv [.fn 39 [.agg [a,b]] []]) 69,.cells (zBv [ii (bst false g (q+1))]) 2,.cells (zBv [.bool (decide (q+1=0))]) 4,.cells (zBv [ii T.sp,ii T.lo,ii T.we,ii T.al,ii T.f0,ii T.f1,ii T.t0,ii T.t1,ii T.s0,ii T.s1,ii T.o0,ii T.o1,ii T.b0,ii T.b1,ii T.r0,ii T.r1,lv]) 76,.cells (zBv [.bool false]) 4,.cells (zBv [ii xo.f,ii xo.t,ii xo.s,ii xo.o,ii xo.b,ii xo.r]) 37,.dfr,o],[.cells (zBv [ii x.f,ii x.t,ii x.s,ii x.o,ii x.b,ii x.r]) 37],_,by rw [e,e2];rfl,by omega,?_,.inl ⟨by first|rfl|trivial,oo,by rw [hxo]⟩⟩
          show _<h.clock+11
          omega
      · (repeat' (first
  | (with_reducible first|refine zJw ?_|refine zHz ?_|refine zFz ?_|refine zEv ?_|refine zFy ?_|refine zJv ?_|refine zHy ?_|refine zCz ?_|refine zDw ?_|refine zCy ?_|refine zCv ?_|refine zEx ?_|refine zDz ?_|refine zCx ?_|refine zBy ?_|refine zEz ?_|refine zEy ?_|refine zAv ?_|refine zBz ?_)
  | refine zDy ?_|refine zEw rfl ?_|refine zJy ?_|refine zJx ?_
  | ((first|refine zGv rfl rfl rfl rfl rfl fun K_ hK_=>?_|refine zGw rfl rfl rfl rfl rfl fun K_ hK_=>?_);simp only [zAz,zDx,zGx,↓reduceIte,reduceCtorEq,Nat.reduceEqDiff,Bool.not_true,Bool.not_false];refine hK_ _ ?_;clear hK_ K_)
  | refine zDv (by decide) ?_
  | ((try first|refine zKy rfl rfl rfl ?_|refine zJz rfl rfl ?_|refine zKx rfl rfl rfl ?_|refine zIw rfl rfl ?_);(refine zIv fun Q_ hQ_=>?_;simp (disch:=first|omega|(simp only [List.length_cons,List.length_nil,List.length_append];omega)) only [bb,bp,zLz,↓reduceIte,reduceCtorEq,Nat.reduceEqDiff,Nat.reduceLT,Nat.reduceLeDiff,Nat.reduceAdd,Nat.reduceMul,Nat.reduceSub,Nat.reduceBEq,Int.reduceToNat,cond_true,cond_false,eq_self,beq_self_eq_true,f1,f2,fa,fb,fa',fb',hd0,zFw wf,zGy wf,zBw wf,zFx wf,zAy wf,zAx,tEvD19,zIx,zIy,zIz,zHv,zFv,zAw wf];first|(refine zCw (Q:=Q_) (fun hp_=>?_) (fun hp_=>?_) <;> first|(exfalso;omega)|(refine hQ_ _ _ ?_;clear hQ_ Q_))|(refine zBx (Q:=Q_) (fun hp_=>?_) (fun hp_=>?_) <;> first|(exfalso;omega)|(refine hQ_ _ _ ?_;clear hQ_ Q_))|(refine hQ_ _ _ ?_;clear hQ_ Q_)|(refine zLv (hcx _ (y.up _ _ (by simp only [List.length_append,List.length_cons,List.length_nil];omega))) ?_;refine hQ_ _ _ ?_;clear hQ_ Q_)))
  | (refine zHx fun K_ hK_=>?_;simp (disch:=omega) only [zGz,zAz,zHw,↓reduceIte,reduceCtorEq,Nat.reduceEqDiff,Nat.reduceLT];refine hK_ _ ?_;clear hK_ K_)))
        · have e:bst true g (q+1)=g q:=by rw [bst_hi hq0];omega
          have e2:decide (q+1=0)=false:=decide_eq_false (by omega)
          refine yldB_X wf (k:=10) rfl ho' ?_
          simp only [List.set_cons_succ,List.set_cons_zero]
          rw [← ho]
          refine ⟨[.cells (zBv [ii T.sp,ii T.lo,ii T.we,ii T.al,ii T.f0,ii T.f1,ii T.t0,ii T.t1,ii T.s0,ii T.s1,ii T.o0,ii T.o1,ii T.b0,ii T.b1,ii T.r0,ii T.r1,lv]) 76,.cells (zBv [a,b]) 67,.cells (zBv [.bool true]) 4,.cells (zBv [.fn 39 [.agg [a,b]] []]) 69,.cells (zBv [ii (bst true g (q+1))]) 2,.cells (zBv [.bool (decide (q+1=0))]) 4,.cells (zBv [ii T.sp,ii T.lo,ii T.we,ii T.al,ii T.f0,ii T.f1,ii T.t0,ii T.t1,ii T.s0,ii T.s1,ii T.o0,ii T.o1,ii T.b0,ii T.b1,ii T.r0,ii T.r1,lv]) 76,.cells (zBv [.bool true]) 4,.cells (zBv [ii xo.f,ii xo.t,ii xo.s,ii xo.o,ii xo.b,ii xo.r]) 37,.dfr,o],[.cells (zBv [ii x.f,ii x.t,ii x.s,ii x.o,ii x.b,ii x.r]) 37],_,by rw [e,e2];rfl,by omega,?_,.inl ⟨by first|rfl|trivial,oo,by rw [hxo]⟩⟩
          show _<h.clock+11
          omega
        · have e:bst true g (q+1)=bst true g q:=by rw [bst_hi hq0];omega
          have e2:decide (q+1=0)=false:=decide_eq_false (by omega)
          refine yldB_X wf (k:=10) rfl ho' ?_
          simp only [List.set_cons_succ,List.set_cons_zero]
          rw [← ho]
          refine ⟨[.cells (zBv [ii T.sp,ii T.lo,ii T.we,ii T.al,ii T.f0,ii T.f1,ii T.t0,ii T.t1,ii T.s0,ii T.s1,ii T.o0,ii T.o1,ii T.b0,ii T.b1,ii T.r0,ii T.r1,lv]) 76,.cells (zBv [a,b]) 67,.cells (zBv [.bool true]) 4,.cells (zBv [.fn 39 [.agg [a,b]] []]) 69,.cells (zBv [ii (bst true g (q+1))]) 2,.cells (zBv [.bool (decide (q+1=0))]) 4,.cells (zBv [ii T.sp,ii T.lo,ii T.we,ii T.al,ii T.f0,ii T.f1,ii T.t0,ii T.t1,ii T.s0,ii T.s1,ii T.o0,ii T.o1,ii T.b0,ii T.b1,ii T.r0,ii T.r1,lv]) 76,.cells (zBv [.bool true]) 4,.cells (zBv [ii xo.f,ii xo.t,ii xo.s,ii xo.o,ii xo.b,ii xo.r]) 37,.dfr,o],[.cells (zBv [ii x.f,ii x.t,ii x.s,ii x.o,ii x.b,ii x.r]) 37],_,by rw [e,e2];rfl,by omega,?_,.inl ⟨by first|rfl|trivial,oo,by rw [hxo]⟩⟩
          show _<h.clock+11
          omega
  · rintro v h' ⟨L,J,w,rfl,hlo,hw,⟨oo,rfl⟩|⟨_,hD⟩⟩
    · simp only [List.cons_append,List.nil_append]
      refine xGz wf (k:=10) rfl ho (by decide) fun o' ho'=>?_
      simp only [List.set_cons_succ,List.set_cons_zero]
      (repeat' (first
  | (with_reducible first|refine zJw ?_|refine zHz ?_|refine zFz ?_|refine zEv ?_|refine zFy ?_|refine zJv ?_|refine zHy ?_|refine zCz ?_|refine zDw ?_|refine zCy ?_|refine zCv ?_|refine zEx ?_|refine zDz ?_|refine zCx ?_|refine zBy ?_|refine zEz ?_|refine zEy ?_|refine zAv ?_|refine zBz ?_)
  | refine zDy ?_|refine zEw rfl ?_|refine zJy ?_|refine zJx ?_
  | ((first|refine zGv rfl rfl rfl rfl rfl fun K_ hK_=>?_|refine zGw rfl rfl rfl rfl rfl fun K_ hK_=>?_);simp only [zAz,zDx,zGx,↓reduceIte,reduceCtorEq,Nat.reduceEqDiff,Bool.not_true,Bool.not_false];refine hK_ _ ?_;clear hK_ K_)
  | refine zDv (by decide) ?_
  | ((try first|refine zKy rfl rfl rfl ?_|refine zJz rfl rfl ?_|refine zKx rfl rfl rfl ?_|refine zIw rfl rfl ?_);(refine zIv fun Q_ hQ_=>?_;simp (disch:=first|omega|(simp only [List.length_cons,List.length_nil,List.length_append];omega)) only [bb,bp,zLz,↓reduceIte,reduceCtorEq,Nat.reduceEqDiff,Nat.reduceLT,Nat.reduceLeDiff,Nat.reduceAdd,Nat.reduceMul,Nat.reduceSub,Nat.reduceBEq,Int.reduceToNat,cond_true,cond_false,eq_self,beq_self_eq_true,zFw wf,zGy wf,zBw wf,zFx wf,zAy wf,zAx,tEvD19,zIx,zIy,zIz,zHv,zFv,zAw wf];first|(refine zCw (Q:=Q_) (fun hp_=>?_) (fun hp_=>?_) <;> first|(exfalso;omega)|(refine hQ_ _ _ ?_;clear hQ_ Q_))|(refine zBx (Q:=Q_) (fun hp_=>?_) (fun hp_=>?_) <;> first|(exfalso;omega)|(refine hQ_ _ _ ?_;clear hQ_ Q_))|(refine hQ_ _ _ ?_;clear hQ_ Q_)))
  | (refine zHx fun K_ hK_=>?_;simp (disch:=omega) only [zGz,zAz,zHw,↓reduceIte,reduceCtorEq,Nat.reduceEqDiff,Nat.reduceLT];refine hK_ _ ?_;clear hK_ K_)))
      refine zKz _ _ (takeAll_X wf (k:=9) rfl) (ret1 (by decide)) ?_
      simp only [zAz,↓reduceIte,reduceCtorEq,Nat.reduceEqDiff]
      refine zKw rfl (by omega) ?_
      exact ⟨rfl,rfl⟩
    · exact hD.elim
end Go.Proofs.Ythaleckfgcgegaa
end

section
namespace Go.Proofs.Ythaleckfgcgegaa
open Go.Ev
set_option maxRecDepth 100000
set_option linter.unusedSimpArgs false
set_option linter.unusedVariables false
set_option maxHeartbeats 2000000
theorem tEvD20 :type_of% (And.intro (And.intro (And.intro (And.intro (And.intro (And.intro (And.intro (@yXx) (@yXy)) (And.intro (@yXz) (And.intro (@yWv) (@yWw)))) (And.intro (And.intro (@yWx) (And.intro (@yWy) (@yWz))) (And.intro (@zWz) (And.intro (@ia_2) (@sz_2))))) (And.intro (And.intro (And.intro (@ia_3) (@sz_3)) (And.intro (@ia_4) (And.intro (@sz_4) (@yVv)))) (And.intro (And.intro (@yFz) (And.intro (@yVw) (@yEv))) (And.intro (@yVx) (And.intro (@yEw) (@yVy)))))) (And.intro (And.intro (And.intro (And.intro (@yEx) (@yVz)) (And.intro (@yEy) (And.intro (@yUv) (@yEz)))) (And.intro (And.intro (@yUw) (And.intro (@yDv) (@yUx))) (And.intro (@yDw) (And.intro (@yUy) (@yDx))))) (And.intro (And.intro (And.intro (@yUz) (And.intro (@yDy) (@yTv))) (And.intro (@zYy) (And.intro (@yTw) (@yDz)))) (And.intro (And.intro (@yTx) (And.intro (@yCv) (@yTy))) (And.intro (@yCw) (And.intro (@yTz) (@yCx))))))) (And.intro (And.intro (And.intro (And.intro (And.intro (@ySv) (@yCy)) (And.intro (@ySw) (And.intro (@yCz) (@ySx)))) (And.intro (And.intro (@yBv) (And.intro (@ySy) (@yBw))) (And.intro (@ySz) (And.intro (@yBx) (@yRv))))) (And.intro (And.intro (And.intro (@yBy) (@zVv)) (And.intro (@zUx) (And.intro (@zVw) (@zUy)))) (And.intro (And.intro (@zVx) (And.intro (@zUz) (@zVy))) (And.intro (@zTv) (And.intro (@zVz) (@zTw)))))) (And.intro (And.intro (And.intro (And.intro (@zUv) (@zTx)) (And.intro (@zUw) (And.intro (@zTy) (@ze_2)))) (And.intro (And.intro (@ze_3) (And.intro (@ze_4) (@yBz))) (And.intro (@yAv) (And.intro (@yAw) (@yAx))))) (And.intro (And.intro (And.intro (@yAy) (And.intro (@yAz) (@xZv))) (And.intro (@zZv) (And.intro (@zZw) (@zZx)))) (And.intro (And.intro (@zTz) (And.intro (@zSz) (@zRv))) (And.intro (@zRw) (And.intro (@zRx) (@zRy)))))))) (And.intro (And.intro (And.intro (And.intro (And.intro (And.intro (@zRz) (@zQv)) (And.intro (@zQw) (And.intro (@zQx) (@zQy)))) (And.intro (And.intro (@zQz) (And.intro (@zPv) (@zPw))) (And.intro (@zPx) (And.intro (@zPy) (@zPz))))) (And.intro (And.intro (And.intro (@zOv) (@zOw)) (And.intro (@zOx) (And.intro (@zOy) (@zOz)))) (And.intro (And.intro (@zNv) (And.intro (@zNw) (@zNx))) (And.intro (@zNy) (And.intro (@zNz) (@zMv)))))) (And.intro (And.intro (And.intro (And.intro (@zMw) (@yRw)) (And.intro (@yRx) (And.intro (@yRy) (@yRz)))) (And.intro (And.intro (@yQv) (And.intro (@yQw) (@yQx))) (And.intro (@yQy) (And.intro (@yQz) (@yPv))))) (And.intro (And.intro (And.intro (@yPw) (And.intro (@yPx) (@yPy))) (And.intro (@yPz) (And.intro (@yOv) (@yOw)))) (And.intro (And.intro (@yOx) (And.intro (@yOy) (@yOz))) (And.intro (@yNv) (And.intro (@yNw) (@yNx))))))) (And.intro (And.intro (And.intro (And.intro (And.intro (@yNy) (@yNz)) (And.intro (@yMv) (And.intro (@yMw) (@yMx)))) (And.intro (And.intro (@yMy) (And.intro (@yMz) (@yLv))) (And.intro (@yLw) (And.intro (@yLx) (@yLy))))) (And.intro (And.intro (And.intro (@yLz) (@yKv)) (And.intro (@yKw) (And.intro (@yKx) (@yKy)))) (And.intro (And.intro (@yKz) (And.intro (@yJv) (@yJw))) (And.intro (@yJx) (And.intro (@yJy) (@yJz)))))) (And.intro (And.intro (And.intro (And.intro (@yIv) (@yIw)) (And.intro (@yIx) (And.intro (@yIy) (@yIz)))) (And.intro (And.intro (@yHv) (And.intro (@zZy) (@zZz))) (And.intro (@yHw) (And.intro (@yHx) (@yHy))))) (And.intro (And.intro (And.intro (@yHz) (And.intro (@yGv) (@yGw))) (And.intro (@yGx) (And.intro (@yGy) (@yGz)))) (And.intro (And.intro (@yFv) (And.intro (@yFw) (@zYv))) (And.intro (@yFx) (And.intro (@yFy) (@zYw))))))))):=And.intro (And.intro (And.intro (And.intro (And.intro (And.intro (And.intro (@yXx) (@yXy)) (And.intro (@yXz) (And.intro (@yWv) (@yWw)))) (And.intro (And.intro (@yWx) (And.intro (@yWy) (@yWz))) (And.intro (@zWz) (And.intro (@ia_2) (@sz_2))))) (And.intro (And.intro (And.intro (@ia_3) (@sz_3)) (And.intro (@ia_4) (And.intro (@sz_4) (@yVv)))) (And.intro (And.intro (@yFz) (And.intro (@yVw) (@yEv))) (And.intro (@yVx) (And.intro (@yEw) (@yVy)))))) (And.intro (And.intro (And.intro (And.intro (@yEx) (@yVz)) (And.intro (@yEy) (And.intro (@yUv) (@yEz)))) (And.intro (And.intro (@yUw) (And.intro (@yDv) (@yUx))) (And.intro (@yDw) (And.intro (@yUy) (@yDx))))) (And.intro (And.intro (And.intro (@yUz) (And.intro (@yDy) (@yTv))) (And.intro (@zYy) (And.intro (@yTw) (@yDz)))) (And.intro (And.intro (@yTx) (And.intro (@yCv) (@yTy))) (And.intro (@yCw) (And.intro (@yTz) (@yCx))))))) (And.intro (And.intro (And.intro (And.intro (And.intro (@ySv) (@yCy)) (And.intro (@ySw) (And.intro (@yCz) (@ySx)))) (And.intro (And.intro (@yBv) (And.intro (@ySy) (@yBw))) (And.intro (@ySz) (And.intro (@yBx) (@yRv))))) (And.intro (And.intro (And.intro (@yBy) (@zVv)) (And.intro (@zUx) (And.intro (@zVw) (@zUy)))) (And.intro (And.intro (@zVx) (And.intro (@zUz) (@zVy))) (And.intro (@zTv) (And.intro (@zVz) (@zTw)))))) (And.intro (And.intro (And.intro (And.intro (@zUv) (@zTx)) (And.intro (@zUw) (And.intro (@zTy) (@ze_2)))) (And.intro (And.intro (@ze_3) (And.intro (@ze_4) (@yBz))) (And.intro (@yAv) (And.intro (@yAw) (@yAx))))) (And.intro (And.intro (And.intro (@yAy) (And.intro (@yAz) (@xZv))) (And.intro (@zZv) (And.intro (@zZw) (@zZx)))) (And.intro (And.intro (@zTz) (And.intro (@zSz) (@zRv))) (And.intro (@zRw) (And.intro (@zRx) (@zRy)))))))) (And.intro (And.intro (And.intro (And.intro (And.intro (And.intro (@zRz) (@zQv)) (And.intro (@zQw) (And.intro (@zQx) (@zQy)))) (And.intro (And.intro (@zQz) (And.intro (@zPv) (@zPw))) (And.intro (@zPx) (And.intro (@zPy) (@zPz))))) (And.intro (And.intro (And.intro (@zOv) (@zOw)) (And.intro (@zOx) (And.intro (@zOy) (@zOz)))) (And.intro (And.intro (@zNv) (And.intro (@zNw) (@zNx))) (And.intro (@zNy) (And.intro (@zNz) (@zMv)))))) (And.intro (And.intro (And.intro (And.intro (@zMw) (@yRw)) (And.intro (@yRx) (And.intro (@yRy) (@yRz)))) (And.intro (And.intro (@yQv) (And.intro (@yQw) (@yQx))) (And.intro (@yQy) (And.intro (@yQz) (@yPv))))) (And.intro (And.intro (And.intro (@yPw) (And.intro (@yPx) (@yPy))) (And.intro (@yPz) (And.intro (@yOv) (@yOw)))) (And.intro (And.intro (@yOx) (And.intro (@yOy) (@yOz))) (And.intro (@yNv) (And.intro (@yNw) (@yNx))))))) (And.intro (And.intro (And.intro (And.intro (And.intro (@yNy) (@yNz)) (And.intro (@yMv) (And.intro (@yMw) (@yMx)))) (And.intro (And.intro (@yMy) (And.intro (@yMz) (@yLv))) (And.intro (@yLw) (And.intro (@yLx) (@yLy))))) (And.intro (And.intro (And.intro (@yLz) (@yKv)) (And.intro (@yKw) (And.intro (@yKx) (@yKy)))) (And.intro (And.intro (@yKz) (And.intro (@yJv) (@yJw))) (And.intro (@yJx) (And.intro (@yJy) (@yJz)))))) (And.intro (And.intro (And.intro (And.intro (@yIv) (@yIw)) (And.intro (@yIx) (And.intro (@yIy) (@yIz)))) (And.intro (And.intro (@yHv) (And.intro (@zZy) (@zZz))) (And.intro (@yHw) (And.intro (@yHx) (@yHy))))) (And.intro (And.intro (And.intro (@yHz) (And.intro (@yGv) (@yGw))) (And.intro (@yGx) (And.intro (@yGy) (@yGz)))) (And.intro (And.intro (@yFv) (And.intro (@yFw) (@zYv))) (And.intro (@yFx) (And.intro (@yFy) (@zYw))))))))
def lineV (T:Te) (ls:List Ln) (high:Bool) (i:Nat):Int:=match ls[i]? with
  | some l=>endv T l.re l.cf high
  | none=>0
theorem lineV_at {T:Te} {ls:List Ln} {high:Bool} {i:Nat} (hi:i<ls.length):lineV T ls high i=endv T ls[i].re ls[i].cf high:=by unfold lineV;rw [List.getElem?_eq_getElem hi]
def spanV (T:Te) (ls:List Ln) (high:Bool):Int:=bst high (lineV T ls high) ls.length
theorem LinesR.cut {h:H} {s b:AV} {ls:List Ln} (x:LinesR h s ls) (hs:Sl h b 2 (ls.length - 1) ((ls.flatMap lnC).drop (1 * 2))):LinesR h b ls.tail:=by
  refine ⟨x.wf,?_,fun l hl=>x.ln l (List.mem_of_mem_tail hl)⟩
  rw [List.length_tail]
  cases ls with
  | nil=>simpa using hs
  | cons l r=>simpa [lnC] using hs
theorem span (T:Te) (k:okT T) (lv:AV) (hcap:CapU 2 lv) (ls:List Ln) (hk:okLs ls) (hr:rk T ls) (h:H) (x:LinesR h lv ls):(om Try.prog KK).call (.fn 55 [.agg [ii T.sp,ii T.lo,ii T.we,ii T.al,ii T.f0,ii T.f1,ii T.t0,ii T.t1,ii T.s0,ii T.s1,ii T.o0,ii T.o1,ii T.b0,ii T.b1,ii T.r0,ii T.r1,lv]]) h = .ok (.agg [ii (spanV T ls false),ii (spanV T ls true)]) h:=by
  have wf:=x.wf
  obtain ⟨f1,f2⟩:=x.flat
  have hn:=hk.n
  have h0:0<ls.length:=by omega
  obtain ⟨id,off,hix,hld,hln⟩:=x.at ik_74 h0
  obtain ⟨⟨fa,fa'⟩,⟨fb,fb'⟩⟩:=hln.flats
  have hix':indexAddrE Try.prog 74 lv (.int .i64 0)=some (.ptr id off):=hix
  obtain ⟨b',hcut,hsl,_⟩:=x.sl.cutFrom (k:=1) (by omega) un_74 zYy (by decide) hcap
  have y:=x.cut hsl
  have hlen : ∀ h',lenE Try.prog 74 b' h'=some (ii (ls.tail.length:Int)):=fun h'=>y.sl.len un_74
  have c0 : ∀ high l w,w≤h.clock+l.length→(om Try.prog KK).call (.fn 72 [.agg [ii T.sp,ii T.lo,ii T.we,ii T.al,ii T.f0,ii T.f1,ii T.t0,ii T.t1,ii T.s0,ii T.s1,ii T.o0,ii T.o1,ii T.b0,ii T.b1,ii T.r0,ii T.r1,lv],.agg [ls[0].a,ls[0].b],.bool high]) (X h l w) = .ok (ii (lineV T ls high 0)) (X h l w):=fun high l w hw=>by
    rw [lineV_at h0]
    exact endC T k lv ⟨f1,f2⟩ _ _ _ _ (hk.ok _ (List.getElem_mem h0)) (hr _ (List.getElem_mem h0)) high _ (hln.up _ _ hw)
  refine zWv (zLx (fn:=Try.f55) Try.func55 rfl rfl rfl rfl rfl ?_)
  simp only [zLz]
  (repeat' (first
  | (with_reducible first|refine zJw ?_|refine zHz ?_|refine zFz ?_|refine zEv ?_|refine zFy ?_|refine zJv ?_|refine zHy ?_|refine zCz ?_|refine zDw ?_|refine zCy ?_|refine zCv ?_|refine zEx ?_|refine zDz ?_|refine zCx ?_|refine zBy ?_|refine zEz ?_|refine zEy ?_|refine zAv ?_|refine zBz ?_)
  | refine zDy ?_|refine zEw rfl ?_|refine zJy ?_|refine zJx ?_
  | ((first|refine zGv rfl rfl rfl rfl rfl fun K_ hK_=>?_|refine zGw rfl rfl rfl rfl rfl fun K_ hK_=>?_);simp only [zAz,zDx,zGx,↓reduceIte,reduceCtorEq,Nat.reduceEqDiff,Bool.not_true,Bool.not_false];refine hK_ _ ?_;clear hK_ K_)
  | refine zDv (by decide) ?_
  | ((try first|refine zKy rfl rfl rfl ?_|refine zJz rfl rfl ?_|refine zKx rfl rfl rfl ?_|refine zIw rfl rfl ?_);(refine zIv fun Q_ hQ_=>?_;simp (disch:=first|omega|(simp only [List.length_cons,List.length_nil,List.length_append];omega)) only [bb,bp,zLz,↓reduceIte,reduceCtorEq,Nat.reduceEqDiff,Nat.reduceLT,Nat.reduceLeDiff,Nat.reduceAdd,Nat.reduceMul,Nat.reduceSub,Nat.reduceBEq,Int.reduceToNat,cond_true,cond_false,eq_self,beq_self_eq_true,f1,f2,zFw wf,zGy wf,zBw wf,zFx wf,zAy wf,zAx,tEvD20,zIx,zIy,zIz,zHv,zFv,zAw wf];first|(refine zCw (Q:=Q_) (fun hp_=>?_) (fun hp_=>?_) <;> first|(exfalso;omega)|(refine hQ_ _ _ ?_;clear hQ_ Q_))|(refine zBx (Q:=Q_) (fun hp_=>?_) (fun hp_=>?_) <;> first|(exfalso;omega)|(refine hQ_ _ _ ?_;clear hQ_ Q_))|(refine hQ_ _ _ ?_;clear hQ_ Q_)))
  | (refine zHx fun K_ hK_=>?_;simp (disch:=omega) only [zGz,zAz,zHw,↓reduceIte,reduceCtorEq,Nat.reduceEqDiff,Nat.reduceLT];refine hK_ _ ?_;clear hK_ K_)))
  refine zLy (List.replicate 14 .no++[.full]) (by kernel_rfl) ?_
  (repeat' (first
  | (with_reducible first|refine zJw ?_|refine zHz ?_|refine zFz ?_|refine zEv ?_|refine zFy ?_|refine zJv ?_|refine zHy ?_|refine zCz ?_|refine zDw ?_|refine zCy ?_|refine zCv ?_|refine zEx ?_|refine zDz ?_|refine zCx ?_|refine zBy ?_|refine zEz ?_|refine zEy ?_|refine zAv ?_|refine zBz ?_)
  | refine zDy ?_|refine zEw rfl ?_|refine zJy ?_|refine zJx ?_
  | ((first|refine zGv rfl rfl rfl rfl rfl fun K_ hK_=>?_|refine zGw rfl rfl rfl rfl rfl fun K_ hK_=>?_);simp only [zAz,zDx,zGx,↓reduceIte,reduceCtorEq,Nat.reduceEqDiff,Bool.not_true,Bool.not_false];refine hK_ _ ?_;clear hK_ K_)
  | refine zDv (by decide) ?_
  | ((try first|refine zKy rfl rfl rfl ?_|refine zJz rfl rfl ?_|refine zKx rfl rfl rfl ?_|refine zIw rfl rfl ?_);(refine zIv fun Q_ hQ_=>?_;simp (disch:=first|omega|(simp only [List.length_cons,List.length_nil,List.length_append];omega)) only [bb,bp,zLz,↓reduceIte,reduceCtorEq,Nat.reduceEqDiff,Nat.reduceLT,Nat.reduceLeDiff,Nat.reduceAdd,Nat.reduceMul,Nat.reduceSub,Nat.reduceBEq,Int.reduceToNat,cond_true,cond_false,eq_self,beq_self_eq_true,f1,f2,fa,fb,fa',fb',hix',hld,c0,zFw wf,zGy wf,zBw wf,zFx wf,zAy wf,zAx,tEvD20,zIx,zIy,zIz,zHv,zFv,zAw wf];first|(refine zCw (Q:=Q_) (fun hp_=>?_) (fun hp_=>?_) <;> first|(exfalso;omega)|(refine hQ_ _ _ ?_;clear hQ_ Q_))|(refine zBx (Q:=Q_) (fun hp_=>?_) (fun hp_=>?_) <;> first|(exfalso;omega)|(refine hQ_ _ _ ?_;clear hQ_ Q_))|(refine hQ_ _ _ ?_;clear hQ_ Q_)))
  | (refine zHx fun K_ hK_=>?_;simp (disch:=omega) only [zGz,zAz,zHw,↓reduceIte,reduceCtorEq,Nat.reduceEqDiff,Nat.reduceLT];refine hK_ _ ?_;clear hK_ K_)))
  (repeat' (first
  | (with_reducible first|refine zJw ?_|refine zHz ?_|refine zFz ?_|refine zEv ?_|refine zFy ?_|refine zJv ?_|refine zHy ?_|refine zCz ?_|refine zDw ?_|refine zCy ?_|refine zCv ?_|refine zEx ?_|refine zDz ?_|refine zCx ?_|refine zBy ?_|refine zEz ?_|refine zEy ?_|refine zAv ?_|refine zBz ?_)
  | refine zDy ?_|refine zEw rfl ?_|refine zJy ?_|refine zJx ?_
  | ((first|refine zGv rfl rfl rfl rfl rfl fun K_ hK_=>?_|refine zGw rfl rfl rfl rfl rfl fun K_ hK_=>?_);simp only [zAz,zDx,zGx,↓reduceIte,reduceCtorEq,Nat.reduceEqDiff,Bool.not_true,Bool.not_false];refine hK_ _ ?_;clear hK_ K_)
  | refine zDv (by decide) ?_
  | ((try first|refine zKy rfl rfl rfl ?_|refine zJz rfl rfl ?_|refine zKx rfl rfl rfl ?_|refine zIw rfl rfl ?_);(refine zIv fun Q_ hQ_=>?_;simp (disch:=first|omega|(simp only [List.length_cons,List.length_nil,List.length_append];omega)) only [bb,bp,zLz,↓reduceIte,reduceCtorEq,Nat.reduceEqDiff,Nat.reduceLT,Nat.reduceLeDiff,Nat.reduceAdd,Nat.reduceMul,Nat.reduceSub,Nat.reduceBEq,Int.reduceToNat,cond_true,cond_false,eq_self,beq_self_eq_true,f1,f2,hcut,hlen,zFw wf,zGy wf,zBw wf,zFx wf,zAy wf,zAx,tEvD20,zIx,zIy,zIz,zHv,zFv,zAw wf];first|(refine zCw (Q:=Q_) (fun hp_=>?_) (fun hp_=>?_) <;> first|(exfalso;omega)|(refine hQ_ _ _ ?_;clear hQ_ Q_))|(refine zBx (Q:=Q_) (fun hp_=>?_) (fun hp_=>?_) <;> first|(exfalso;omega)|(refine hQ_ _ _ ?_;clear hQ_ Q_))|(refine hQ_ _ _ ?_;clear hQ_ Q_)))
  | (refine zHx fun K_ hK_=>?_;simp (disch:=omega) only [zGz,zAz,zHw,↓reduceIte,reduceCtorEq,Nat.reduceEqDiff,Nat.reduceLT];refine hK_ _ ?_;clear hK_ K_)))
  have ht:ls.tail.length=ls.length - 1:=List.length_tail
  refine yYv (fun (i:Nat) f d h'=>i≤ls.tail.length∧f 1 = .ptr (nx h 0) 0∧f 2 = .ptr (nx h 1) 0∧f 3 = .ptr (nx h 2) 0∧f 21=b'∧f 22=ii (ls.tail.length:Int)∧f 23=ii (i:Int)∧d=[] ∧
    ∃ G,h'=X h (.cells (zBv [ii T.sp,ii T.lo,ii T.we,ii T.al,ii T.f0,ii T.f1,ii T.t0,ii T.t1,ii T.s0,ii T.s1,ii T.o0,ii T.o1,ii T.b0,ii T.b1,ii T.r0,ii T.r1,lv]) 76 :: .cells (zBv [ii 0,ii 0]) 33 :: .cells (zBv [ii (bst false (lineV T ls false) (i+1)),ii (bst true (lineV T ls true) (i+1))]) 33 :: G) h.clock) (fun i=>ls.tail.length - i) ?_ (ls.length+1) 0 (by omega) ?_
  · rintro i f d h' ⟨hi,g1,g2,g3,g21,g22,g23,rfl,G,rfl⟩
    by_cases hlt:i<ls.tail.length
    · obtain ⟨ie,oe,hxe,hle,hlne⟩:=y.at ik_74 hlt
      obtain ⟨⟨ga,ga'⟩,⟨gb,gb'⟩⟩:=hlne.flats
      have hi1:i+1<ls.length:=by omega
      have et:ls.tail[i]=ls[i+1]:=by rw [List.getElem_tail]
      have c1 : ∀ high l w,w≤h.clock+l.length→(om Try.prog KK).call (.fn 72 [.agg [ii T.sp,ii T.lo,ii T.we,ii T.al,ii T.f0,ii T.f1,ii T.t0,ii T.t1,ii T.s0,ii T.s1,ii T.o0,ii T.o1,ii T.b0,ii T.b1,ii T.r0,ii T.r1,lv],.agg [ls.tail[i].a,ls.tail[i].b],.bool high]) (X h l w) = .ok (ii (lineV T ls high (i+1))) (X h l w):=fun high l w hw=>by
        rw [lineV_at hi1,← et]
        exact endC T k lv ⟨f1,f2⟩ _ _ _ _ (hk.ok _ (List.mem_of_mem_tail (List.getElem_mem hlt))) (hr _ (List.mem_of_mem_tail (List.getElem_mem hlt))) high _ (hlne.up _ _ hw)
      have e1:bst false (lineV T ls false) (i+1+1)=min (bst false (lineV T ls false) (i+1)) (lineV T ls false (i+1)):=bst_lo (by omega)
      have e2:bst true (lineV T ls true) (i+1+1)=max (bst true (lineV T ls true) (i+1)) (lineV T ls true (i+1)):=bst_hi (by omega)
      (repeat' (first
  | (with_reducible first|refine zJw ?_|refine zHz ?_|refine zFz ?_|refine zEv ?_|refine zFy ?_|refine zJv ?_|refine zHy ?_|refine zCz ?_|refine zDw ?_|refine zCy ?_|refine zCv ?_|refine zEx ?_|refine zDz ?_|refine zCx ?_|refine zBy ?_|refine zEz ?_|refine zEy ?_|refine zAv ?_|refine zBz ?_)
  | refine zDy ?_|refine zEw rfl ?_|refine zJy ?_|refine zJx ?_
  | ((first|refine zGv rfl rfl rfl rfl rfl fun K_ hK_=>?_|refine zGw rfl rfl rfl rfl rfl fun K_ hK_=>?_);simp only [zAz,zDx,zGx,↓reduceIte,reduceCtorEq,Nat.reduceEqDiff,Bool.not_true,Bool.not_false];refine hK_ _ ?_;clear hK_ K_)
  | refine zDv (by decide) ?_
  | ((try first|refine zKy rfl rfl rfl ?_|refine zJz rfl rfl ?_|refine zKx rfl rfl rfl ?_|refine zIw rfl rfl ?_);(refine zIv fun Q_ hQ_=>?_;simp (disch:=first|omega|(simp only [List.length_cons,List.length_nil,List.length_append];omega)) only [bb,bp,zLz,↓reduceIte,reduceCtorEq,Nat.reduceEqDiff,Nat.reduceLT,Nat.reduceLeDiff,Nat.reduceAdd,Nat.reduceMul,Nat.reduceSub,Nat.reduceBEq,Int.reduceToNat,cond_true,cond_false,eq_self,beq_self_eq_true,g1,g2,g3,g21,g22,g23,hxe,hle,ga,gb,ga',gb',zFw wf,zGy wf,zBw wf,zFx wf,zAy wf,zAx,tEvD20,zIx,zIy,zIz,zHv,zFv,zAw wf];first|(refine zCw (Q:=Q_) (fun hp_=>?_) (fun hp_=>?_) <;> first|(exfalso;omega)|(refine hQ_ _ _ ?_;clear hQ_ Q_))|(refine zBx (Q:=Q_) (fun hp_=>?_) (fun hp_=>?_) <;> first|(exfalso;omega)|(refine hQ_ _ _ ?_;clear hQ_ Q_))|(refine hQ_ _ _ ?_;clear hQ_ Q_)))
  | (refine zHx fun K_ hK_=>?_;simp (disch:=omega) only [zGz,zAz,zHw,↓reduceIte,reduceCtorEq,Nat.reduceEqDiff,Nat.reduceLT];refine hK_ _ ?_;clear hK_ K_)))
      refine zLy [.no,.no,.no,.no,.no,.full,.full,.full] (by kernel_rfl) ?_
      (repeat' (first
  | (with_reducible first|refine zJw ?_|refine zHz ?_|refine zFz ?_|refine zEv ?_|refine zFy ?_|refine zJv ?_|refine zHy ?_|refine zCz ?_|refine zDw ?_|refine zCy ?_|refine zCv ?_|refine zEx ?_|refine zDz ?_|refine zCx ?_|refine zBy ?_|refine zEz ?_|refine zEy ?_|refine zAv ?_|refine zBz ?_)
  | refine zDy ?_|refine zEw rfl ?_|refine zJy ?_|refine zJx ?_
  | ((first|refine zGv rfl rfl rfl rfl rfl fun K_ hK_=>?_|refine zGw rfl rfl rfl rfl rfl fun K_ hK_=>?_);simp only [zAz,zDx,zGx,↓reduceIte,reduceCtorEq,Nat.reduceEqDiff,Bool.not_true,Bool.not_false];refine hK_ _ ?_;clear hK_ K_)
  | refine zDv (by decide) ?_
  | ((try first|refine zKy rfl rfl rfl ?_|refine zJz rfl rfl ?_|refine zKx rfl rfl rfl ?_|refine zIw rfl rfl ?_);(refine zIv fun Q_ hQ_=>?_;simp (disch:=first|omega|(simp only [List.length_cons,List.length_nil,List.length_append];omega)) only [bb,bp,zLz,↓reduceIte,reduceCtorEq,Nat.reduceEqDiff,Nat.reduceLT,Nat.reduceLeDiff,Nat.reduceAdd,Nat.reduceMul,Nat.reduceSub,Nat.reduceBEq,Int.reduceToNat,cond_true,cond_false,eq_self,beq_self_eq_true,g1,g2,g3,g21,g22,g23,c1,bi_min,f1,f2,ga,gb,ga',gb',zFw wf,zGy wf,zBw wf,zFx wf,zAy wf,zAx,tEvD20,zIx,zIy,zIz,zHv,zFv,zAw wf];first|(refine zCw (Q:=Q_) (fun hp_=>?_) (fun hp_=>?_) <;> first|(exfalso;omega)|(refine hQ_ _ _ ?_;clear hQ_ Q_))|(refine zBx (Q:=Q_) (fun hp_=>?_) (fun hp_=>?_) <;> first|(exfalso;omega)|(refine hQ_ _ _ ?_;clear hQ_ Q_))|(refine hQ_ _ _ ?_;clear hQ_ Q_)))
  | (refine zHx fun K_ hK_=>?_;simp (disch:=omega) only [zGz,zAz,zHw,↓reduceIte,reduceCtorEq,Nat.reduceEqDiff,Nat.reduceLT];refine hK_ _ ?_;clear hK_ K_)))
      refine zLy [.no,.no,.no,.no,.no,.full,.full,.full] (by kernel_rfl) ?_
      (repeat' (first
  | (with_reducible first|refine zJw ?_|refine zHz ?_|refine zFz ?_|refine zEv ?_|refine zFy ?_|refine zJv ?_|refine zHy ?_|refine zCz ?_|refine zDw ?_|refine zCy ?_|refine zCv ?_|refine zEx ?_|refine zDz ?_|refine zCx ?_|refine zBy ?_|refine zEz ?_|refine zEy ?_|refine zAv ?_|refine zBz ?_)
  | refine zDy ?_|refine zEw rfl ?_|refine zJy ?_|refine zJx ?_
  | ((first|refine zGv rfl rfl rfl rfl rfl fun K_ hK_=>?_|refine zGw rfl rfl rfl rfl rfl fun K_ hK_=>?_);simp only [zAz,zDx,zGx,↓reduceIte,reduceCtorEq,Nat.reduceEqDiff,Bool.not_true,Bool.not_false];refine hK_ _ ?_;clear hK_ K_)
  | refine zDv (by decide) ?_
  | ((try first|refine zKy rfl rfl rfl ?_|refine zJz rfl rfl ?_|refine zKx rfl rfl rfl ?_|refine zIw rfl rfl ?_);(refine zIv fun Q_ hQ_=>?_;simp (disch:=first|omega|(simp only [List.length_cons,List.length_nil,List.length_append];omega)) only [bb,bp,zLz,↓reduceIte,reduceCtorEq,Nat.reduceEqDiff,Nat.reduceLT,Nat.reduceLeDiff,Nat.reduceAdd,Nat.reduceMul,Nat.reduceSub,Nat.reduceBEq,Int.reduceToNat,cond_true,cond_false,eq_self,beq_self_eq_true,g1,g2,g3,g21,g22,g23,c1,bi_max,f1,f2,ga,gb,ga',gb',zFw wf,zGy wf,zBw wf,zFx wf,zAy wf,zAx,tEvD20,zIx,zIy,zIz,zHv,zFv,zAw wf];first|(refine zCw (Q:=Q_) (fun hp_=>?_) (fun hp_=>?_) <;> first|(exfalso;omega)|(refine hQ_ _ _ ?_;clear hQ_ Q_))|(refine zBx (Q:=Q_) (fun hp_=>?_) (fun hp_=>?_) <;> first|(exfalso;omega)|(refine hQ_ _ _ ?_;clear hQ_ Q_))|(refine hQ_ _ _ ?_;clear hQ_ Q_)))
  | (refine zHx fun K_ hK_=>?_;simp (disch:=omega) only [zGz,zAz,zHw,↓reduceIte,reduceCtorEq,Nat.reduceEqDiff,Nat.reduceLT];refine hK_ _ ?_;clear hK_ K_)))
      refine zLw (i+1) (by omega) ⟨hlt,by simp only [zAz,↓reduceIte,reduceCtorEq,Nat.reduceEqDiff];exact g1,by simp only [zAz,↓reduceIte,reduceCtorEq,Nat.reduceEqDiff];exact g2,by simp only [zAz,↓reduceIte,reduceCtorEq,Nat.reduceEqDiff];exact g3,by simp only [zAz,↓reduceIte,reduceCtorEq,Nat.reduceEqDiff];exact g21,by simp only [zAz,↓reduceIte,reduceCtorEq,Nat.reduceEqDiff];exact g22,by simp only [zAz,↓reduceIte,reduceCtorEq,Nat.reduceEqDiff];rfl,rfl,_,by rw [e1,e2]⟩
    · have hie:i=ls.tail.length:=by omega
      have e1:spanV T ls false=bst false (lineV T ls false) (i+1):=by unfold spanV;congr 1;omega
      have e2:spanV T ls true=bst true (lineV T ls true) (i+1):=by unfold spanV;congr 1;omega
      rw [e1,e2]
      (repeat' (first
  | (with_reducible first|refine zJw ?_|refine zHz ?_|refine zFz ?_|refine zEv ?_|refine zFy ?_|refine zJv ?_|refine zHy ?_|refine zCz ?_|refine zDw ?_|refine zCy ?_|refine zCv ?_|refine zEx ?_|refine zDz ?_|refine zCx ?_|refine zBy ?_|refine zEz ?_|refine zEy ?_|refine zAv ?_|refine zBz ?_)
  | refine zDy ?_|refine zEw rfl ?_|refine zJy ?_|refine zJx ?_
  | ((first|refine zGv rfl rfl rfl rfl rfl fun K_ hK_=>?_|refine zGw rfl rfl rfl rfl rfl fun K_ hK_=>?_);simp only [zAz,zDx,zGx,↓reduceIte,reduceCtorEq,Nat.reduceEqDiff,Bool.not_true,Bool.not_false];refine hK_ _ ?_;clear hK_ K_)
  | refine zDv (by decide) ?_
  | ((try first|refine zKy rfl rfl rfl ?_|refine zJz rfl rfl ?_|refine zKx rfl rfl rfl ?_|refine zIw rfl rfl ?_);(refine zIv fun Q_ hQ_=>?_;simp (disch:=first|omega|(simp only [List.length_cons,List.length_nil,List.length_append];omega)) only [bb,bp,zLz,↓reduceIte,reduceCtorEq,Nat.reduceEqDiff,Nat.reduceLT,Nat.reduceLeDiff,Nat.reduceAdd,Nat.reduceMul,Nat.reduceSub,Nat.reduceBEq,Int.reduceToNat,cond_true,cond_false,eq_self,beq_self_eq_true,g1,g2,g3,g21,g22,g23,zFw wf,zGy wf,zBw wf,zFx wf,zAy wf,zAx,tEvD20,zIx,zIy,zIz,zHv,zFv,zAw wf];first|(refine zCw (Q:=Q_) (fun hp_=>?_) (fun hp_=>?_) <;> first|(exfalso;omega)|(refine hQ_ _ _ ?_;clear hQ_ Q_))|(refine zBx (Q:=Q_) (fun hp_=>?_) (fun hp_=>?_) <;> first|(exfalso;omega)|(refine hQ_ _ _ ?_;clear hQ_ Q_))|(refine hQ_ _ _ ?_;clear hQ_ Q_)))
  | (refine zHx fun K_ hK_=>?_;simp (disch:=omega) only [zGz,zAz,zHw,↓reduceIte,reduceCtorEq,Nat.reduceEqDiff,Nat.reduceLT];refine hK_ _ ?_;clear hK_ K_)))
      refine zKz _ _ rfl (retc0 (by decide) (by simp (disch:=first|omega|(simp only [List.length_cons,List.length_nil,List.length_append];omega)) only [bb,bp,zLz,↓reduceIte,reduceCtorEq,Nat.reduceEqDiff,Nat.reduceLT,Nat.reduceLeDiff,Nat.reduceAdd,Nat.reduceMul,Nat.reduceSub,Nat.reduceBEq,Int.reduceToNat,cond_true,cond_false,eq_self,beq_self_eq_true,g2,zBw wf,tEvD20,zIx,zIy,zIz,zHv,zFv,zAw wf];rfl)) ?_
      refine zKw rfl (by omega) ?_
      exact ⟨rfl,rfl⟩
  · exact ⟨Nat.zero_le _,by simp only [zAz,↓reduceIte,reduceCtorEq,Nat.reduceEqDiff],by simp only [zAz,↓reduceIte,reduceCtorEq,Nat.reduceEqDiff],by simp only [zAz,↓reduceIte,reduceCtorEq,Nat.reduceEqDiff],by simp only [zAz,↓reduceIte,reduceCtorEq,Nat.reduceEqDiff],by simp only [zAz,↓reduceIte,reduceCtorEq,Nat.reduceEqDiff],by first|(simp only [zAz,↓reduceIte,reduceCtorEq,Nat.reduceEqDiff];done)|(simp only [zAz,↓reduceIte,reduceCtorEq,Nat.reduceEqDiff];rfl),rfl,[],by rw [wBy,wBy]⟩

def spanErrA (T:Te) (ls:List Ln) (high:Bool):Int:=if reckErr T ls=0 then spanV T ls high else 0
theorem Span (T:Te) (s:AV) (ls:List Ln) (h:H) (x:LinesR h s ls):(om Try.prog KK).call (.fn 27 [.agg [ii T.sp,ii T.lo,ii T.we,ii T.al,ii T.f0,ii T.f1,ii T.t0,ii T.t1,ii T.s0,ii T.s1,ii T.o0,ii T.o1,ii T.b0,ii T.b1,ii T.r0,ii T.r1],s]) h = .ok (.tup [.agg [ii (spanErrA T ls false),ii (spanErrA T ls true)],ii (reckErr T ls)]) h:=by
  have wf:=x.wf
  refine zWv (zLx (fn:=Try.f27) Try.func27 rfl rfl rfl rfl rfl ?_)
  simp only [zLz]
  by_cases he:reckErr T ls=0
  · have k:okT T:=by
      by_cases k:okT T
      · exact k
      · rw [reck1 k] at he;cases he
    have hz:linesErr ls=0:=by
      by_cases hz:linesErr ls=0
      · exact hz
      · rw [reck2 k hz] at he;exact absurd he hz
    have q:rk T ls:=by
      by_cases q:rk T ls
      · exact q
      · rw [reck3 k hz q] at he;cases he
    have hk:=yXv.1 hz
    rw [show spanErrA T ls false=_ from if_pos he,show spanErrA T ls true=_ from if_pos he,he]
    obtain ⟨M,lv,hc,hcap,hlr⟩:=reckoned T s ls k hk q h x [.cells (zBv [ii T.sp,ii T.lo,ii T.we,ii T.al,ii T.f0,ii T.f1,ii T.t0,ii T.t1,ii T.s0,ii T.s1,ii T.o0,ii T.o1,ii T.b0,ii T.b1,ii T.r0,ii T.r1]) 35,.cells (zBv [ii 0,ii 0]) 33] h.clock (by omega)
    simp only [List.cons_append,List.nil_append,List.length_cons,List.length_nil] at hc hlr
    obtain ⟨f1,f2⟩:=(hlr [] h.clock (by omega)).flat
    (repeat' (first
  | (with_reducible first|refine zJw ?_|refine zHz ?_|refine zFz ?_|refine zEv ?_|refine zFy ?_|refine zJv ?_|refine zHy ?_|refine zCz ?_|refine zDw ?_|refine zCy ?_|refine zCv ?_|refine zEx ?_|refine zDz ?_|refine zCx ?_|refine zBy ?_|refine zEz ?_|refine zEy ?_|refine zAv ?_|refine zBz ?_)
  | refine zDy ?_|refine zEw rfl ?_|refine zJy ?_|refine zJx ?_
  | ((first|refine zGv rfl rfl rfl rfl rfl fun K_ hK_=>?_|refine zGw rfl rfl rfl rfl rfl fun K_ hK_=>?_);simp only [zAz,zDx,zGx,↓reduceIte,reduceCtorEq,Nat.reduceEqDiff,Bool.not_true,Bool.not_false];refine hK_ _ ?_;clear hK_ K_)
  | refine zDv (by decide) ?_
  | ((try first|refine zKy rfl rfl rfl ?_|refine zJz rfl rfl ?_|refine zKx rfl rfl rfl ?_|refine zIw rfl rfl ?_);(refine zIv fun Q_ hQ_=>?_;simp (disch:=first|omega|(simp only [List.length_cons,List.length_nil,List.length_append];omega)) only [bb,bp,zLz,↓reduceIte,reduceCtorEq,Nat.reduceEqDiff,Nat.reduceLT,Nat.reduceLeDiff,Nat.reduceAdd,Nat.reduceMul,Nat.reduceSub,Nat.reduceBEq,Int.reduceToNat,cond_true,cond_false,eq_self,beq_self_eq_true,zFw wf,zGy wf,zBw wf,zFx wf,zAy wf,zAx,tEvD20,zIx,zIy,zIz,zHv,zFv,zAw wf];first|(refine zCw (Q:=Q_) (fun hp_=>?_) (fun hp_=>?_) <;> first|(exfalso;omega)|(refine hQ_ _ _ ?_;clear hQ_ Q_))|(refine zBx (Q:=Q_) (fun hp_=>?_) (fun hp_=>?_) <;> first|(exfalso;omega)|(refine hQ_ _ _ ?_;clear hQ_ Q_))|(refine hQ_ _ _ ?_;clear hQ_ Q_)|(refine zLv (hc) ?_;refine hQ_ _ _ ?_;clear hQ_ Q_)))
  | (refine zHx fun K_ hK_=>?_;simp (disch:=omega) only [zGz,zAz,zHw,↓reduceIte,reduceCtorEq,Nat.reduceEqDiff,Nat.reduceLT];refine hK_ _ ?_;clear hK_ K_)))
    (repeat' (first
  | (with_reducible first|refine zJw ?_|refine zHz ?_|refine zFz ?_|refine zEv ?_|refine zFy ?_|refine zJv ?_|refine zHy ?_|refine zCz ?_|refine zDw ?_|refine zCy ?_|refine zCv ?_|refine zEx ?_|refine zDz ?_|refine zCx ?_|refine zBy ?_|refine zEz ?_|refine zEy ?_|refine zAv ?_|refine zBz ?_)
  | refine zDy ?_|refine zEw rfl ?_|refine zJy ?_|refine zJx ?_
  | ((first|refine zGv rfl rfl rfl rfl rfl fun K_ hK_=>?_|refine zGw rfl rfl rfl rfl rfl fun K_ hK_=>?_);simp only [zAz,zDx,zGx,↓reduceIte,reduceCtorEq,Nat.reduceEqDiff,Bool.not_true,Bool.not_false];refine hK_ _ ?_;clear hK_ K_)
  | refine zDv (by decide) ?_
  | ((try first|refine zKy rfl rfl rfl ?_|refine zJz rfl rfl ?_|refine zKx rfl rfl rfl ?_|refine zIw rfl rfl ?_);(refine zIv fun Q_ hQ_=>?_;simp (disch:=first|omega|(simp only [List.length_cons,List.length_nil,List.length_append];omega)) only [bb,bp,zLz,↓reduceIte,reduceCtorEq,Nat.reduceEqDiff,Nat.reduceLT,Nat.reduceLeDiff,Nat.reduceAdd,Nat.reduceMul,Nat.reduceSub,Nat.reduceBEq,Int.reduceToNat,cond_true,cond_false,eq_self,beq_self_eq_true,f1,f2,zFw wf,zGy wf,zBw wf,zFx wf,zAy wf,zAx,tEvD20,zIx,zIy,zIz,zHv,zFv,zAw wf];first|(refine zCw (Q:=Q_) (fun hp_=>?_) (fun hp_=>?_) <;> first|(exfalso;omega)|(refine hQ_ _ _ ?_;clear hQ_ Q_))|(refine zBx (Q:=Q_) (fun hp_=>?_) (fun hp_=>?_) <;> first|(exfalso;omega)|(refine hQ_ _ _ ?_;clear hQ_ Q_))|(refine hQ_ _ _ ?_;clear hQ_ Q_)|(refine zLv (span T k lv hcap ls hk q _ (hlr _ _ (by simp only [List.length_append,List.length_cons,List.length_nil];omega))) ?_;refine hQ_ _ _ ?_;clear hQ_ Q_)))
  | (refine zHx fun K_ hK_=>?_;simp (disch:=omega) only [zGz,zAz,zHw,↓reduceIte,reduceCtorEq,Nat.reduceEqDiff,Nat.reduceLT];refine hK_ _ ?_;clear hK_ K_)))
    refine zKz _ _ rfl (retc1 (by decide) (by decide) (by simp (disch:=first|omega|(simp only [List.length_cons,List.length_nil,List.length_append];omega)) only [bb,bp,zLz,↓reduceIte,reduceCtorEq,Nat.reduceEqDiff,Nat.reduceLT,Nat.reduceLeDiff,Nat.reduceAdd,Nat.reduceMul,Nat.reduceSub,Nat.reduceBEq,Int.reduceToNat,cond_true,cond_false,eq_self,beq_self_eq_true,zBw wf,tEvD20,zIx,zIy,zIz,zHv,zFv,zAw wf];rfl)) ?_
    refine zKw rfl (by omega) ?_
    exact ⟨rfl,rfl⟩
  · rw [show spanErrA T ls false=_ from if_neg he,show spanErrA T ls true=_ from if_neg he]
    have hc:=fun l w hw=>reckonedE T s ls he _ (x.up l w hw)
    unfold z17 at hc
    (repeat' (first
  | (with_reducible first|refine zJw ?_|refine zHz ?_|refine zFz ?_|refine zEv ?_|refine zFy ?_|refine zJv ?_|refine zHy ?_|refine zCz ?_|refine zDw ?_|refine zCy ?_|refine zCv ?_|refine zEx ?_|refine zDz ?_|refine zCx ?_|refine zBy ?_|refine zEz ?_|refine zEy ?_|refine zAv ?_|refine zBz ?_)
  | refine zDy ?_|refine zEw rfl ?_|refine zJy ?_|refine zJx ?_
  | ((first|refine zGv rfl rfl rfl rfl rfl fun K_ hK_=>?_|refine zGw rfl rfl rfl rfl rfl fun K_ hK_=>?_);simp only [zAz,zDx,zGx,↓reduceIte,reduceCtorEq,Nat.reduceEqDiff,Bool.not_true,Bool.not_false];refine hK_ _ ?_;clear hK_ K_)
  | refine zDv (by decide) ?_
  | ((try first|refine zKy rfl rfl rfl ?_|refine zJz rfl rfl ?_|refine zKx rfl rfl rfl ?_|refine zIw rfl rfl ?_);(refine zIv fun Q_ hQ_=>?_;simp (disch:=first|omega|(simp only [List.length_cons,List.length_nil,List.length_append];omega)) only [bb,bp,zLz,↓reduceIte,reduceCtorEq,Nat.reduceEqDiff,Nat.reduceLT,Nat.reduceLeDiff,Nat.reduceAdd,Nat.reduceMul,Nat.reduceSub,Nat.reduceBEq,Int.reduceToNat,cond_true,cond_false,eq_self,beq_self_eq_true,zFw wf,zGy wf,zBw wf,zFx wf,zAy wf,zAx,tEvD20,zIx,zIy,zIz,zHv,zFv,zAw wf];first|(refine zCw (Q:=Q_) (fun hp_=>?_) (fun hp_=>?_) <;> first|(exfalso;omega)|(refine hQ_ _ _ ?_;clear hQ_ Q_))|(refine zBx (Q:=Q_) (fun hp_=>?_) (fun hp_=>?_) <;> first|(exfalso;omega)|(refine hQ_ _ _ ?_;clear hQ_ Q_))|(refine hQ_ _ _ ?_;clear hQ_ Q_)|(refine zLv (hc _ _ (by simp only [List.length_append,List.length_cons,List.length_nil];omega)) ?_;refine hQ_ _ _ ?_;clear hQ_ Q_)))
  | (refine zHx fun K_ hK_=>?_;simp (disch:=omega) only [zGz,zAz,zHw,↓reduceIte,reduceCtorEq,Nat.reduceEqDiff,Nat.reduceLT];refine hK_ _ ?_;clear hK_ K_)))
    refine zKz _ _ rfl (retc1 (by decide) (by decide) (by simp (disch:=first|omega|(simp only [List.length_cons,List.length_nil,List.length_append];omega)) only [bb,bp,zLz,↓reduceIte,reduceCtorEq,Nat.reduceEqDiff,Nat.reduceLT,Nat.reduceLeDiff,Nat.reduceAdd,Nat.reduceMul,Nat.reduceSub,Nat.reduceBEq,Int.reduceToNat,cond_true,cond_false,eq_self,beq_self_eq_true,zBw wf,tEvD20,zIx,zIy,zIz,zHv,zFv,zAw wf];rfl)) ?_
    refine zKw rfl (by omega) ?_
    exact ⟨rfl,rfl⟩
end Go.Proofs.Ythaleckfgcgegaa
end

section
namespace Go.Proofs.Ythaleckfgcgegaa
open Go.Ev
set_option maxRecDepth 100000
set_option linter.unusedSimpArgs false
set_option linter.unusedVariables false
set_option maxHeartbeats 2000000
theorem conv_u32 {n:Int} (hn:0≤n∧n≤4294967295):convE Try.prog 55 2 (.int .u32 n)=some (.int .i64 n):=by
  rw [c_int Try.underlying55 Try.underlying2]
  rw [xQv _ (by omega) (by omega)]
theorem tmod_in {a m:Int} (ha:0≤a) (hm:0<m):0≤a.tmod m∧a.tmod m<m:=by
  rw [Int.tmod_eq_emod_of_nonneg ha]
  exact ⟨Int.emod_nonneg _ (by omega),Int.emod_lt_of_pos _ hm⟩

end Go.Proofs.Ythaleckfgcgegaa
end
