import Derived.Test.YthaleckfgcgegaaSpaM6
set_option linter.all false
section
namespace Go.Proofs.Ythaleckfgcgegaa
open Go.Ev
set_option maxRecDepth 100000
set_option linter.unusedSimpArgs false
set_option linter.unusedVariables false
set_option maxHeartbeats 2000000
theorem tEvD21 :type_of% (And.intro (And.intro (And.intro (And.intro (And.intro (And.intro (And.intro (@yYz) (@yXv)) (And.intro (@yXw) (And.intro (@yXx) (@yXy)))) (And.intro (And.intro (@yXz) (And.intro (@yWv) (@yWw))) (And.intro (@zWz) (And.intro (@ia_2) (@sz_2))))) (And.intro (And.intro (And.intro (@ia_3) (@sz_3)) (And.intro (@ia_4) (And.intro (@sz_4) (@yWx)))) (And.intro (And.intro (@yFw) (And.intro (@yWy) (@yFx))) (And.intro (@yWz) (And.intro (@yFy) (@yVv)))))) (And.intro (And.intro (And.intro (And.intro (@yFz) (@yVw)) (And.intro (@yEv) (And.intro (@yVx) (@yEw)))) (And.intro (And.intro (@yVy) (And.intro (@yEx) (@yVz))) (And.intro (@yEy) (And.intro (@yUv) (@yEz))))) (And.intro (And.intro (And.intro (@yUw) (And.intro (@yDv) (@yUx))) (And.intro (@zYx) (And.intro (@yUy) (@yDw)))) (And.intro (And.intro (@yUz) (And.intro (@yDx) (@yTv))) (And.intro (@yDy) (And.intro (@yTw) (@yDz))))))) (And.intro (And.intro (And.intro (And.intro (And.intro (@yTx) (@yCv)) (And.intro (@yTy) (And.intro (@yCw) (@yTz)))) (And.intro (And.intro (@yCx) (And.intro (@ySv) (@yCy))) (And.intro (@ySw) (And.intro (@yCz) (@ySx))))) (And.intro (And.intro (And.intro (@yBv) (@zVv)) (And.intro (@zUx) (And.intro (@zVw) (@zUy)))) (And.intro (And.intro (@zVx) (And.intro (@zUz) (@zVy))) (And.intro (@zTv) (And.intro (@zVz) (@zTw)))))) (And.intro (And.intro (And.intro (And.intro (@zUv) (@zTx)) (And.intro (@zUw) (And.intro (@zTy) (@ze_2)))) (And.intro (And.intro (@ze_3) (And.intro (@ze_4) (@yBw))) (And.intro (@yBx) (And.intro (@yBy) (@yBz))))) (And.intro (And.intro (And.intro (@yAv) (And.intro (@yAw) (@xOw))) (And.intro (@yAx) (And.intro (@yAy) (@yAz)))) (And.intro (And.intro (@zTz) (And.intro (@zSy) (@zSz))) (And.intro (@zRv) (And.intro (@zRw) (@zRx)))))))) (And.intro (And.intro (And.intro (And.intro (And.intro (And.intro (@zRy) (@zRz)) (And.intro (@zQv) (And.intro (@zQw) (@zQx)))) (And.intro (And.intro (@zQy) (And.intro (@zQz) (@zPv))) (And.intro (@zPw) (And.intro (@zPx) (@zPy))))) (And.intro (And.intro (And.intro (@zPz) (@zOv)) (And.intro (@zOw) (And.intro (@zOx) (@zOy)))) (And.intro (And.intro (@zOz) (And.intro (@zNv) (@zNw))) (And.intro (@zNx) (And.intro (@zNy) (@zNz)))))) (And.intro (And.intro (And.intro (And.intro (@zMv) (@ySy)) (And.intro (@ySz) (And.intro (@yRv) (@yRw)))) (And.intro (And.intro (@yRx) (And.intro (@yRy) (@yRz))) (And.intro (@yQv) (And.intro (@yQw) (@yQx))))) (And.intro (And.intro (And.intro (@yQy) (And.intro (@yQz) (@yPv))) (And.intro (@yPw) (And.intro (@yPx) (@yPy)))) (And.intro (And.intro (@yPz) (And.intro (@yOv) (@yOw))) (And.intro (@yOx) (And.intro (@yOy) (@yOz))))))) (And.intro (And.intro (And.intro (And.intro (And.intro (@yNv) (@yNw)) (And.intro (@yNx) (And.intro (@yNy) (@yNz)))) (And.intro (And.intro (@yMv) (And.intro (@yMw) (@yMx))) (And.intro (@yMy) (And.intro (@yMz) (@yLv))))) (And.intro (And.intro (And.intro (@yLw) (@yLx)) (And.intro (@yLy) (And.intro (@yLz) (@yKv)))) (And.intro (And.intro (@yKw) (And.intro (@yKx) (@yKy))) (And.intro (@yKz) (And.intro (@yJv) (@yJw)))))) (And.intro (And.intro (And.intro (And.intro (@yJx) (@yJy)) (And.intro (@yJz) (And.intro (@yIv) (@yIw)))) (And.intro (And.intro (@yIx) (And.intro (@zZw) (@zZx))) (And.intro (@yIy) (And.intro (@yIz) (@yHv))))) (And.intro (And.intro (And.intro (@yHw) (And.intro (@yHx) (@yHy))) (And.intro (@yHz) (And.intro (@yGv) (@yGw)))) (And.intro (And.intro (@yGx) (And.intro (@yGy) (@zZy))) (And.intro (@yGz) (And.intro (@yFv) (@zZz))))))))):=And.intro (And.intro (And.intro (And.intro (And.intro (And.intro (And.intro (@yYz) (@yXv)) (And.intro (@yXw) (And.intro (@yXx) (@yXy)))) (And.intro (And.intro (@yXz) (And.intro (@yWv) (@yWw))) (And.intro (@zWz) (And.intro (@ia_2) (@sz_2))))) (And.intro (And.intro (And.intro (@ia_3) (@sz_3)) (And.intro (@ia_4) (And.intro (@sz_4) (@yWx)))) (And.intro (And.intro (@yFw) (And.intro (@yWy) (@yFx))) (And.intro (@yWz) (And.intro (@yFy) (@yVv)))))) (And.intro (And.intro (And.intro (And.intro (@yFz) (@yVw)) (And.intro (@yEv) (And.intro (@yVx) (@yEw)))) (And.intro (And.intro (@yVy) (And.intro (@yEx) (@yVz))) (And.intro (@yEy) (And.intro (@yUv) (@yEz))))) (And.intro (And.intro (And.intro (@yUw) (And.intro (@yDv) (@yUx))) (And.intro (@zYx) (And.intro (@yUy) (@yDw)))) (And.intro (And.intro (@yUz) (And.intro (@yDx) (@yTv))) (And.intro (@yDy) (And.intro (@yTw) (@yDz))))))) (And.intro (And.intro (And.intro (And.intro (And.intro (@yTx) (@yCv)) (And.intro (@yTy) (And.intro (@yCw) (@yTz)))) (And.intro (And.intro (@yCx) (And.intro (@ySv) (@yCy))) (And.intro (@ySw) (And.intro (@yCz) (@ySx))))) (And.intro (And.intro (And.intro (@yBv) (@zVv)) (And.intro (@zUx) (And.intro (@zVw) (@zUy)))) (And.intro (And.intro (@zVx) (And.intro (@zUz) (@zVy))) (And.intro (@zTv) (And.intro (@zVz) (@zTw)))))) (And.intro (And.intro (And.intro (And.intro (@zUv) (@zTx)) (And.intro (@zUw) (And.intro (@zTy) (@ze_2)))) (And.intro (And.intro (@ze_3) (And.intro (@ze_4) (@yBw))) (And.intro (@yBx) (And.intro (@yBy) (@yBz))))) (And.intro (And.intro (And.intro (@yAv) (And.intro (@yAw) (@xOw))) (And.intro (@yAx) (And.intro (@yAy) (@yAz)))) (And.intro (And.intro (@zTz) (And.intro (@zSy) (@zSz))) (And.intro (@zRv) (And.intro (@zRw) (@zRx)))))))) (And.intro (And.intro (And.intro (And.intro (And.intro (And.intro (@zRy) (@zRz)) (And.intro (@zQv) (And.intro (@zQw) (@zQx)))) (And.intro (And.intro (@zQy) (And.intro (@zQz) (@zPv))) (And.intro (@zPw) (And.intro (@zPx) (@zPy))))) (And.intro (And.intro (And.intro (@zPz) (@zOv)) (And.intro (@zOw) (And.intro (@zOx) (@zOy)))) (And.intro (And.intro (@zOz) (And.intro (@zNv) (@zNw))) (And.intro (@zNx) (And.intro (@zNy) (@zNz)))))) (And.intro (And.intro (And.intro (And.intro (@zMv) (@ySy)) (And.intro (@ySz) (And.intro (@yRv) (@yRw)))) (And.intro (And.intro (@yRx) (And.intro (@yRy) (@yRz))) (And.intro (@yQv) (And.intro (@yQw) (@yQx))))) (And.intro (And.intro (And.intro (@yQy) (And.intro (@yQz) (@yPv))) (And.intro (@yPw) (And.intro (@yPx) (@yPy)))) (And.intro (And.intro (@yPz) (And.intro (@yOv) (@yOw))) (And.intro (@yOx) (And.intro (@yOy) (@yOz))))))) (And.intro (And.intro (And.intro (And.intro (And.intro (@yNv) (@yNw)) (And.intro (@yNx) (And.intro (@yNy) (@yNz)))) (And.intro (And.intro (@yMv) (And.intro (@yMw) (@yMx))) (And.intro (@yMy) (And.intro (@yMz) (@yLv))))) (And.intro (And.intro (And.intro (@yLw) (@yLx)) (And.intro (@yLy) (And.intro (@yLz) (@yKv)))) (And.intro (And.intro (@yKw) (And.intro (@yKx) (@yKy))) (And.intro (@yKz) (And.intro (@yJv) (@yJw)))))) (And.intro (And.intro (And.intro (And.intro (@yJx) (@yJy)) (And.intro (@yJz) (And.intro (@yIv) (@yIw)))) (And.intro (And.intro (@yIx) (And.intro (@zZw) (@zZx))) (And.intro (@yIy) (And.intro (@yIz) (@yHv))))) (And.intro (And.intro (And.intro (@yHw) (And.intro (@yHx) (@yHy))) (And.intro (@yHz) (And.intro (@yGv) (@yGw)))) (And.intro (And.intro (@yGx) (And.intro (@yGy) (@zZy))) (And.intro (@yGz) (And.intro (@yFv) (@zZz))))))))
theorem coef_mono {T:Te} (k:okT T) {re cf:List Int} (kl:okL re cf) (hin:inAll T re) {x y:Tr} (kx:isT T x) (ky:isT T y) (ho:x.o=y.o) (hf:x.f≤y.f) (ht:y.t≤x.t) (hs:x.s≤y.s) (hb:y.b≤x.b) (hr:x.r≤y.r):coef T re cf x≤coef T re cf y:=by
  have kf:=k.f
  have kt:=k.t
  have ks:=k.s
  have ko:=k.o
  have kb:=k.b
  have xf:=kx.f
  have yf:=ky.f
  have xt:=kx.t
  have yt:=ky.t
  have xs:=kx.s
  have ys:=ky.s
  have xo:=kx.o
  have xb:=kx.b
  have yb:=ky.b
  obtain ⟨ix1,ix2⟩:=xDw k hin kx
  obtain ⟨iy1,iy2⟩:=xDw k hin ky
  obtain ⟨-,-,-,-,p2,p3⟩:=k.prods
  have m1:meas T x.f≤meas T y.f:=by
    have:=Int.ediv_le_ediv (show 0<T.we * T.sp * T.sp by omega) (show 20000000000 * x.f≤20000000000 * y.f by omega)
    unfold meas;omega
  have m2:=meas_in k (f:=x.f) (by omega)
  have m3:meas T x.f * (1000 - x.b)≤meas T y.f * (1000 - y.b):=Int.mul_le_mul m1 (by omega) (by omega) (by omega)
  have m4:=Int.ediv_le_ediv (show (0:Int)<1000 by decide) m3
  have g1:=fr_mono kl ix1 iy1 (mo_anti k (by omega) ht)
  have g2:=fr_mono kl iy2 ix2 (sh_anti k (by omega) hs)
  have n1:(1000+y.o) * fr re cf (mo T y.t)≤(1000+x.o) * fr re cf (mo T x.t):=by rw [ho];exact Int.mul_le_mul_of_nonneg_left g1 (by omega)
  have n2:(1000+x.o) * fr re cf (sh T x.s)≤(1000+y.o) * fr re cf (sh T y.s):=by rw [ho];exact Int.mul_le_mul_of_nonneg_left g2 (by omega)
  have n3:=Int.ediv_le_ediv (show (0:Int)<1000 by decide) n1
  have n4:=Int.ediv_le_ediv (show (0:Int)<1000 by decide) n2
  unfold coef formed
  omega
theorem bst_ge {g:Nat→Int} : ∀ {n q:Nat},q<n→g q≤bst true g n
  | 1,0,_=>by rw [xLx];exact Int.le_refl _
  | n+2,q,h=>by
    rw [bst_hi (by omega)]
    by_cases e:q=n+1
    · rw [e];omega
    · have:=bst_ge (g:=g) (n:=n+1) (q:=q) (by omega);omega
theorem bst_le {g:Nat→Int} : ∀ {n q:Nat},q<n→bst false g n≤g q
  | 1,0,_=>by rw [xLx];exact Int.le_refl _
  | n+2,q,h=>by
    rw [bst_lo (by omega)]
    by_cases e:q=n+1
    · rw [e];omega
    · have:=bst_le (g:=g) (n:=n+1) (q:=q) (by omega);omega
theorem bst_att {high:Bool} {g:Nat→Int} : ∀ {n:Nat},0<n → ∃ q,q<n∧bst high g n=g q
  | 1,_=>⟨0,by omega,xLx⟩
  | n+2,_=>by
    obtain ⟨q,hq,e⟩:=bst_att (high:=high) (g:=g) (n:=n+1) (by omega)
    cases high
    · rw [bst_lo (by omega)]
      rcases Int.le_total (bst false g (n+1)) (g (n+1)) with h|h
      · exact ⟨q,by omega,by omega⟩
      · exact ⟨n+1,by omega,by omega⟩
    · rw [bst_hi (by omega)]
      rcases Int.le_total (bst true g (n+1)) (g (n+1)) with h|h
      · exact ⟨n+1,by omega,by omega⟩
      · exact ⟨q,by omega,by omega⟩
theorem cnt_pos (T:Te):0<cnt T:=by unfold cnt;omega
theorem endv_att {T:Te} (k:okT T) (re cf:List Int) (high:Bool) : ∃ o,(T.o0≤o∧o≤T.o1)∧endv T re cf high=coef T re cf (cand T high o):=by
  have ko:=k.o
  obtain ⟨q,hq,e⟩:=bst_att (high:=high) (g:=cg T re cf high) (cnt_pos T)
  exact ⟨T.o0+q,by unfold cnt at hq;omega,e⟩
theorem endv_box {T:Te} (k:okT T) {re cf:List Int} (kl:okL re cf) (hin:inAll T re) {x:Tr} (kx:isT T x):endv T re cf false≤coef T re cf x∧coef T re cf x≤endv T re cf true:=by
  have ko:=k.o
  have xo:=kx.o
  have hq:(x.o - T.o0).toNat<cnt T:=by unfold cnt;omega
  have e:T.o0+((x.o - T.o0).toNat:Int)=x.o:=by omega
  have h1:=bst_le (g:=cg T re cf false) hq
  have h2:=bst_ge (g:=cg T re cf true) hq
  unfold cg at h1 h2
  rw [e] at h1 h2
  have c1:=coef_mono k kl hin (xDv k false xo) kx rfl kx.f.1 kx.t.2 kx.s.1 kx.b.2 kx.r.1
  have c2:=coef_mono k kl hin kx (xDv k true xo) rfl kx.f.2 kx.t.1 kx.s.2 kx.b.1 kx.r.2
  exact ⟨Int.le_trans h1 c1,Int.le_trans c2 h2⟩
theorem span_box {T:Te} (k:okT T) {ls:List Ln} (hk:okLs ls) (hr:rk T ls) {l:Ln} (hl:l ∈ ls) {x:Tr} (kx:isT T x):spanV T ls false≤coef T l.re l.cf x∧coef T l.re l.cf x≤spanV T ls true:=by
  obtain ⟨i,hi,rfl⟩:=List.getElem_of_mem hl
  have h1:=bst_le (g:=lineV T ls false) hi
  have h2:=bst_ge (g:=lineV T ls true) hi
  rw [xQy hi] at h1 h2
  obtain ⟨h3,h4⟩:=endv_box k (hk.ok _ hl) (hr _ hl) kx
  exact ⟨Int.le_trans h1 h3,Int.le_trans h4 h2⟩
theorem wBy {T:Te} (k:okT T) {ls:List Ln} (hk:okLs ls) (high:Bool) : ∃ i,∃ hi:i<ls.length,∃ o,(T.o0≤o∧o≤T.o1)∧spanV T ls high=coef T ls[i].re ls[i].cf (cand T high o):=by
  obtain ⟨i,hi,e⟩:=bst_att (high:=high) (g:=lineV T ls high) (show 0<ls.length by have:=hk.n;omega)
  rw [xQy hi] at e
  obtain ⟨o,ho,e2⟩:=endv_att k ls[i].re ls[i].cf high
  exact ⟨i,hi,o,ho,e.trans e2⟩
structure Fine (T:Te) (ls:List Ln):Prop where
  g : ¬ Greater ls
  k:okT T
  l:okLs ls
  r:rk T ls
def pk (lo hi by':Int):Int:=lo+by'.tmod (hi - lo+1)
theorem pick (lo hi n:Int) (h1:0≤lo∧lo≤hi∧hi≤1000000000) (hn:0≤n∧n≤4294967295) (h:H) (wf:Wf h):(om Try.prog KK).call (.fn 65 [.agg [ii lo,ii hi],.int .u32 n]) h = .ok (ii (pk lo hi n)) h:=by
  have hm:=tmod_in (a:=n) (m:=hi - lo+1) hn.1 (by omega)
  have hz:hi - lo+1≠0:=by omega
  unfold pk
  refine zXz (zLv (fn:=Try.f65) Try.func65 rfl rfl rfl rfl rfl ?_)
  simp only [zLz]
  (repeat' (first
  | (with_reducible first|refine zJw ?_|refine zHz ?_|refine zFz ?_|refine zEv ?_|refine zFy ?_|refine zJv ?_|refine zHy ?_|refine zCz ?_|refine zDw ?_|refine zCy ?_|refine zCv ?_|refine zEx ?_|refine zDz ?_|refine zCx ?_|refine zBy ?_|refine zEz ?_|refine zEy ?_|refine zAv ?_|refine zBz ?_)
  | refine zDy ?_|refine zEw rfl ?_|refine zJy ?_|refine zJx ?_
  | ((first|refine zGv rfl rfl rfl rfl rfl fun K_ hK_=>?_|refine zGw rfl rfl rfl rfl rfl fun K_ hK_=>?_);simp only [zAz,zDx,zGx,↓reduceIte,reduceCtorEq,Nat.reduceEqDiff,Bool.not_true,Bool.not_false];refine hK_ _ ?_;clear hK_ K_)
  | refine zDv (by decide) ?_
  | ((try first|refine zKy rfl rfl rfl ?_|refine zJz rfl rfl ?_|refine zKx rfl rfl rfl ?_|refine zIw rfl rfl ?_);(refine zIv fun Q_ hQ_=>?_;simp (disch:=first|omega|(simp only [List.length_cons,List.length_nil,List.length_append];omega)) only [bb,bp,zLz,↓reduceIte,reduceCtorEq,Nat.reduceEqDiff,Nat.reduceLT,Nat.reduceLeDiff,Nat.reduceAdd,Nat.reduceMul,Nat.reduceSub,Nat.reduceBEq,Int.reduceToNat,cond_true,cond_false,eq_self,beq_self_eq_true,zFw wf,zGy wf,zBw wf,zFx wf,zAy wf,zAx,tEvD21,zIx,zIy,zIz,zHv,zFv,zAw wf];first|(refine zCw (Q:=Q_) (fun hp_=>?_) (fun hp_=>?_) <;> first|(exfalso;omega)|(refine hQ_ _ _ ?_;clear hQ_ Q_))|(refine zBx (Q:=Q_) (fun hp_=>?_) (fun hp_=>?_) <;> first|(exfalso;omega)|(refine hQ_ _ _ ?_;clear hQ_ Q_))|(refine hQ_ _ _ ?_;clear hQ_ Q_)))
  | (refine zHx fun K_ hK_=>?_;simp (disch:=omega) only [zGz,zAz,zHw,↓reduceIte,reduceCtorEq,Nat.reduceEqDiff,Nat.reduceLT];refine hK_ _ ?_;clear hK_ K_)))
  refine zLx (List.replicate 11 .no++[.full,.full]) (by kernel_rfl) ?_
  (repeat' (first
  | (with_reducible first|refine zJw ?_|refine zHz ?_|refine zFz ?_|refine zEv ?_|refine zFy ?_|refine zJv ?_|refine zHy ?_|refine zCz ?_|refine zDw ?_|refine zCy ?_|refine zCv ?_|refine zEx ?_|refine zDz ?_|refine zCx ?_|refine zBy ?_|refine zEz ?_|refine zEy ?_|refine zAv ?_|refine zBz ?_)
  | refine zDy ?_|refine zEw rfl ?_|refine zJy ?_|refine zJx ?_
  | ((first|refine zGv rfl rfl rfl rfl rfl fun K_ hK_=>?_|refine zGw rfl rfl rfl rfl rfl fun K_ hK_=>?_);simp only [zAz,zDx,zGx,↓reduceIte,reduceCtorEq,Nat.reduceEqDiff,Bool.not_true,Bool.not_false];refine hK_ _ ?_;clear hK_ K_)
  | refine zDv (by decide) ?_
  | ((try first|refine zKy rfl rfl rfl ?_|refine zJz rfl rfl ?_|refine zKx rfl rfl rfl ?_|refine zIw rfl rfl ?_);(refine zIv fun Q_ hQ_=>?_;simp (disch:=first|omega|(simp only [List.length_cons,List.length_nil,List.length_append];omega)) only [bb,bp,zLz,↓reduceIte,reduceCtorEq,Nat.reduceEqDiff,Nat.reduceLT,Nat.reduceLeDiff,Nat.reduceAdd,Nat.reduceMul,Nat.reduceSub,Nat.reduceBEq,Int.reduceToNat,cond_true,cond_false,eq_self,beq_self_eq_true,conv_u32 hn,b_rem hz,zFw wf,zGy wf,zBw wf,zFx wf,zAy wf,zAx,tEvD21,zIx,zIy,zIz,zHv,zFv,zAw wf];first|(refine zCw (Q:=Q_) (fun hp_=>?_) (fun hp_=>?_) <;> first|(exfalso;omega)|(refine hQ_ _ _ ?_;clear hQ_ Q_))|(refine zBx (Q:=Q_) (fun hp_=>?_) (fun hp_=>?_) <;> first|(exfalso;omega)|(refine hQ_ _ _ ?_;clear hQ_ Q_))|(refine hQ_ _ _ ?_;clear hQ_ Q_)))
  | (refine zHx fun K_ hK_=>?_;simp (disch:=omega) only [zGz,zAz,zHw,↓reduceIte,reduceCtorEq,Nat.reduceEqDiff,Nat.reduceLT];refine hK_ _ ?_;clear hK_ K_)))
  (refine zKz _ _ rfl (ret1 (by decide)) ?_;simp only [zAz,↓reduceIte,reduceCtorEq,Nat.reduceEqDiff];refine zKw rfl (by omega) ?_)
  exact ⟨rfl,rfl⟩
def pkT (T:Te) (x:Tr):Tr:=⟨pk T.f0 T.f1 x.f,pk T.t0 T.t1 x.t,pk T.s0 T.s1 x.s,pk T.o0 T.o1 x.o,pk T.b0 T.b1 x.b,pk T.r0 T.r1 x.r⟩
structure U6 (x:Tr):Prop where
  f:0≤x.f∧x.f≤4294967295
  t:0≤x.t∧x.t≤4294967295
  s:0≤x.s∧x.s≤4294967295
  o:0≤x.o∧x.o≤4294967295
  b:0≤x.b∧x.b≤4294967295
  r:0≤x.r∧x.r≤4294967295
end Go.Proofs.Ythaleckfgcgegaa
end

section
namespace Go.Proofs.Ythaleckfgcgegaa
open Go.Ev
set_option maxRecDepth 100000
set_option linter.unusedSimpArgs false
set_option linter.unusedVariables false
set_option maxHeartbeats 2000000
theorem tEvD24 :type_of% (And.intro (And.intro (And.intro (And.intro (And.intro (And.intro (And.intro (@yYz) (@yXv)) (And.intro (@yXw) (And.intro (@yXx) (@yXy)))) (And.intro (And.intro (@yXz) (And.intro (@yWv) (@yWw))) (And.intro (@zWz) (And.intro (@ia_2) (@sz_2))))) (And.intro (And.intro (And.intro (@ia_3) (@sz_3)) (And.intro (@ia_4) (And.intro (@sz_4) (@yWx)))) (And.intro (And.intro (@yFw) (And.intro (@yWy) (@yFx))) (And.intro (@yWz) (And.intro (@yFy) (@yVv)))))) (And.intro (And.intro (And.intro (And.intro (@yFz) (@yVw)) (And.intro (@yEv) (And.intro (@yVx) (@yEw)))) (And.intro (And.intro (@yVy) (And.intro (@yEx) (@yVz))) (And.intro (@yEy) (And.intro (@yUv) (@yEz))))) (And.intro (And.intro (And.intro (@yUw) (And.intro (@yDv) (@yUx))) (And.intro (@zYx) (And.intro (@yUy) (@yDw)))) (And.intro (And.intro (@yUz) (And.intro (@yDx) (@yTv))) (And.intro (@yDy) (And.intro (@yTw) (@yDz))))))) (And.intro (And.intro (And.intro (And.intro (And.intro (@yTx) (@yCv)) (And.intro (@yTy) (And.intro (@yCw) (@yTz)))) (And.intro (And.intro (@yCx) (And.intro (@ySv) (@yCy))) (And.intro (@ySw) (And.intro (@yCz) (@ySx))))) (And.intro (And.intro (And.intro (@yBv) (@zVv)) (And.intro (@zUx) (And.intro (@zVw) (@zUy)))) (And.intro (And.intro (@zVx) (And.intro (@zUz) (@zVy))) (And.intro (@zTv) (And.intro (@zVz) (@zTw)))))) (And.intro (And.intro (And.intro (And.intro (@zUv) (@zTx)) (And.intro (@zUw) (And.intro (@zTy) (@ze_2)))) (And.intro (And.intro (@ze_3) (And.intro (@ze_4) (@yBw))) (And.intro (@yBx) (And.intro (@yBy) (@yBz))))) (And.intro (And.intro (And.intro (@yAv) (And.intro (@yAw) (@xOw))) (And.intro (@yAx) (And.intro (@yAy) (@yAz)))) (And.intro (And.intro (@zTz) (And.intro (@zSy) (@zSz))) (And.intro (@zRv) (And.intro (@zRw) (@zRx)))))))) (And.intro (And.intro (And.intro (And.intro (And.intro (And.intro (@zRy) (@zRz)) (And.intro (@zQv) (And.intro (@zQw) (@zQx)))) (And.intro (And.intro (@zQy) (And.intro (@zQz) (@zPv))) (And.intro (@zPw) (And.intro (@zPx) (@zPy))))) (And.intro (And.intro (And.intro (@zPz) (@zOv)) (And.intro (@zOw) (And.intro (@zOx) (@zOy)))) (And.intro (And.intro (@zOz) (And.intro (@zNv) (@zNw))) (And.intro (@zNx) (And.intro (@zNy) (@zNz)))))) (And.intro (And.intro (And.intro (And.intro (@zMv) (@ySy)) (And.intro (@ySz) (And.intro (@yRv) (@yRw)))) (And.intro (And.intro (@yRx) (And.intro (@yRy) (@yRz))) (And.intro (@yQv) (And.intro (@yQw) (@yQx))))) (And.intro (And.intro (And.intro (@yQy) (And.intro (@yQz) (@yPv))) (And.intro (@yPw) (And.intro (@yPx) (@yPy)))) (And.intro (And.intro (@yPz) (And.intro (@yOv) (@yOw))) (And.intro (@yOx) (And.intro (@yOy) (@yOz))))))) (And.intro (And.intro (And.intro (And.intro (And.intro (@yNv) (@yNw)) (And.intro (@yNx) (And.intro (@yNy) (@yNz)))) (And.intro (And.intro (@yMv) (And.intro (@yMw) (@yMx))) (And.intro (@yMy) (And.intro (@yMz) (@yLv))))) (And.intro (And.intro (And.intro (@yLw) (@yLx)) (And.intro (@yLy) (And.intro (@yLz) (@yKv)))) (And.intro (And.intro (@yKw) (And.intro (@yKx) (@yKy))) (And.intro (@yKz) (And.intro (@yJv) (@yJw)))))) (And.intro (And.intro (And.intro (And.intro (@yJx) (@yJy)) (And.intro (@yJz) (And.intro (@yIv) (@yIw)))) (And.intro (And.intro (@yIx) (And.intro (@zZw) (@zZx))) (And.intro (@yIy) (And.intro (@yIz) (@yHv))))) (And.intro (And.intro (And.intro (@yHw) (And.intro (@yHx) (@yHy))) (And.intro (@yHz) (And.intro (@yGv) (@yGw)))) (And.intro (And.intro (@yGx) (And.intro (@yGy) (@zZy))) (And.intro (@yGz) (And.intro (@yFv) (@zZz))))))))):=And.intro (And.intro (And.intro (And.intro (And.intro (And.intro (And.intro (@yYz) (@yXv)) (And.intro (@yXw) (And.intro (@yXx) (@yXy)))) (And.intro (And.intro (@yXz) (And.intro (@yWv) (@yWw))) (And.intro (@zWz) (And.intro (@ia_2) (@sz_2))))) (And.intro (And.intro (And.intro (@ia_3) (@sz_3)) (And.intro (@ia_4) (And.intro (@sz_4) (@yWx)))) (And.intro (And.intro (@yFw) (And.intro (@yWy) (@yFx))) (And.intro (@yWz) (And.intro (@yFy) (@yVv)))))) (And.intro (And.intro (And.intro (And.intro (@yFz) (@yVw)) (And.intro (@yEv) (And.intro (@yVx) (@yEw)))) (And.intro (And.intro (@yVy) (And.intro (@yEx) (@yVz))) (And.intro (@yEy) (And.intro (@yUv) (@yEz))))) (And.intro (And.intro (And.intro (@yUw) (And.intro (@yDv) (@yUx))) (And.intro (@zYx) (And.intro (@yUy) (@yDw)))) (And.intro (And.intro (@yUz) (And.intro (@yDx) (@yTv))) (And.intro (@yDy) (And.intro (@yTw) (@yDz))))))) (And.intro (And.intro (And.intro (And.intro (And.intro (@yTx) (@yCv)) (And.intro (@yTy) (And.intro (@yCw) (@yTz)))) (And.intro (And.intro (@yCx) (And.intro (@ySv) (@yCy))) (And.intro (@ySw) (And.intro (@yCz) (@ySx))))) (And.intro (And.intro (And.intro (@yBv) (@zVv)) (And.intro (@zUx) (And.intro (@zVw) (@zUy)))) (And.intro (And.intro (@zVx) (And.intro (@zUz) (@zVy))) (And.intro (@zTv) (And.intro (@zVz) (@zTw)))))) (And.intro (And.intro (And.intro (And.intro (@zUv) (@zTx)) (And.intro (@zUw) (And.intro (@zTy) (@ze_2)))) (And.intro (And.intro (@ze_3) (And.intro (@ze_4) (@yBw))) (And.intro (@yBx) (And.intro (@yBy) (@yBz))))) (And.intro (And.intro (And.intro (@yAv) (And.intro (@yAw) (@xOw))) (And.intro (@yAx) (And.intro (@yAy) (@yAz)))) (And.intro (And.intro (@zTz) (And.intro (@zSy) (@zSz))) (And.intro (@zRv) (And.intro (@zRw) (@zRx)))))))) (And.intro (And.intro (And.intro (And.intro (And.intro (And.intro (@zRy) (@zRz)) (And.intro (@zQv) (And.intro (@zQw) (@zQx)))) (And.intro (And.intro (@zQy) (And.intro (@zQz) (@zPv))) (And.intro (@zPw) (And.intro (@zPx) (@zPy))))) (And.intro (And.intro (And.intro (@zPz) (@zOv)) (And.intro (@zOw) (And.intro (@zOx) (@zOy)))) (And.intro (And.intro (@zOz) (And.intro (@zNv) (@zNw))) (And.intro (@zNx) (And.intro (@zNy) (@zNz)))))) (And.intro (And.intro (And.intro (And.intro (@zMv) (@ySy)) (And.intro (@ySz) (And.intro (@yRv) (@yRw)))) (And.intro (And.intro (@yRx) (And.intro (@yRy) (@yRz))) (And.intro (@yQv) (And.intro (@yQw) (@yQx))))) (And.intro (And.intro (And.intro (@yQy) (And.intro (@yQz) (@yPv))) (And.intro (@yPw) (And.intro (@yPx) (@yPy)))) (And.intro (And.intro (@yPz) (And.intro (@yOv) (@yOw))) (And.intro (@yOx) (And.intro (@yOy) (@yOz))))))) (And.intro (And.intro (And.intro (And.intro (And.intro (@yNv) (@yNw)) (And.intro (@yNx) (And.intro (@yNy) (@yNz)))) (And.intro (And.intro (@yMv) (And.intro (@yMw) (@yMx))) (And.intro (@yMy) (And.intro (@yMz) (@yLv))))) (And.intro (And.intro (And.intro (@yLw) (@yLx)) (And.intro (@yLy) (And.intro (@yLz) (@yKv)))) (And.intro (And.intro (@yKw) (And.intro (@yKx) (@yKy))) (And.intro (@yKz) (And.intro (@yJv) (@yJw)))))) (And.intro (And.intro (And.intro (And.intro (@yJx) (@yJy)) (And.intro (@yJz) (And.intro (@yIv) (@yIw)))) (And.intro (And.intro (@yIx) (And.intro (@zZw) (@zZx))) (And.intro (@yIy) (And.intro (@yIz) (@yHv))))) (And.intro (And.intro (And.intro (@yHw) (And.intro (@yHx) (@yHy))) (And.intro (@yHz) (And.intro (@yGv) (@yGw)))) (And.intro (And.intro (@yGx) (And.intro (@yGy) (@zZy))) (And.intro (@yGz) (And.intro (@yFv) (@zZz))))))))
def teC (T:Te):List AV:=[ii T.sp,ii T.lo,ii T.we,ii T.al,ii T.f0,ii T.f1,ii T.t0,ii T.t1,ii T.s0,ii T.s1,ii T.o0,ii T.o1,ii T.b0,ii T.b1,ii T.r0,ii T.r1]
theorem teC_length (T:Te):(teC T).length=16:=rfl
structure TestsR (h:H) (s:AV) (ts:List Te):Prop where
  wf:Wf h
  sl:Sl h s 16 ts.length (ts.flatMap teC)
theorem TestsR.up {h:H} {s:AV} {ts:List Te} (x:TestsR h s ts) (l:List AO) (w:Nat) (hw:w≤h.clock+l.length):TestsR (X h l w) s ts:=⟨x.wf.X hw,x.sl.up x.wf l w⟩
theorem TestsR.at {h:H} {s:AV} {ts:List Te} (x:TestsR h s ts) {i:Nat} (hi:i<ts.length) : ∃ id off,indexAddrE Try.prog 51 s (.int .i64 (i:Int))=some (.ptr id off)∧(∀ J w,loadAgg id off (some 16) (X h J w)=some (.agg (teC ts[i]))):=by
  obtain ⟨id,off,h1,h2⟩:=x.sl.at x.wf hi ik_51
  refine ⟨id,off,h1,fun J w=>?_⟩
  rw [(h2 J w).2,flat_at teC_length hi]
def rgC (p:Int × Int):List AV:=[ii p.1,ii p.2]
theorem rgC_length (p:Int × Int):(rgC p).length=2:=rfl
def holdN :List Int→List Int→Nat
  | v :: vs,m :: ms=>if v≤m then holdN vs ms+1 else 0
  | _,_=>0
theorem holdN_at : ∀ {vs ms:List Int} {i:Nat},i<vs.length→vs.length≤ms.length→(∀ j,j<i→vs.getD j 0≤ms.getD j 0)→ms.getD i 0<vs.getD i 0→holdN vs ms=i
  | v :: vs,m :: ms,0,_,_,_,h=>by
    have h':m<v:=h
    show (if v≤m then _ else 0)=0
    rw [if_neg (by omega)]
  | v :: vs,m :: ms,i+1,h1,h2,h3,h=>by
    have h0:v≤m:=h3 0 (by omega)
    have:=holdN_at (vs:=vs) (ms:=ms) (i:=i) (by simpa using h1) (by simpa using h2) (fun j hj=>h3 (j+1) (by omega)) h
    show (if v≤m then holdN vs ms+1 else 0)=i+1
    rw [if_pos h0,this]
  | v :: vs,[],i,h1,h2,_,_=>by simp at h2
  | [],_,i,h1,_,_,_=>by simp at h1
theorem holdN_all : ∀ {vs ms:List Int},vs.length≤ms.length→(∀ j,j<vs.length→vs.getD j 0≤ms.getD j 0)→holdN vs ms=vs.length
  | [],ms,_,_=>by cases ms <;> rfl
  | v :: vs,m :: ms,h2,h3=>by
    have h0:v≤m:=h3 0 (by simp)
    have:=holdN_all (vs:=vs) (ms:=ms) (by simpa using h2) (fun j hj=>h3 (j+1) (by simpa using hj))
    show (if v≤m then holdN vs ms+1 else 0)=vs.length+1
    rw [if_pos h0,this]
  | v :: vs,[],h2,_=>by simp at h2

theorem hiOf (u v:Int) (h:H) (wf:Wf h):(om Try.prog KK).call (.fn 63 [.agg [ii u,ii v]]) h = .ok (ii v) h:=by
  refine zXz (zLv (fn:=Try.f63) Try.func63 rfl rfl rfl rfl rfl ?_)
  simp only [zLz]
  (repeat' (first
  | (with_reducible first|refine zJw ?_|refine zHz ?_|refine zFz ?_|refine zEv ?_|refine zFy ?_|refine zJv ?_|refine zHy ?_|refine zCz ?_|refine zDw ?_|refine zCy ?_|refine zCv ?_|refine zEx ?_|refine zDz ?_|refine zCx ?_|refine zBy ?_|refine zEz ?_|refine zEy ?_|refine zAv ?_|refine zBz ?_)
  | refine zDy ?_|refine zEw rfl ?_|refine zJy ?_|refine zJx ?_
  | ((first|refine zGv rfl rfl rfl rfl rfl fun K_ hK_=>?_|refine zGw rfl rfl rfl rfl rfl fun K_ hK_=>?_);simp only [zAz,zDx,zGx,↓reduceIte,reduceCtorEq,Nat.reduceEqDiff,Bool.not_true,Bool.not_false];refine hK_ _ ?_;clear hK_ K_)
  | refine zDv (by decide) ?_
  | ((try first|refine zKy rfl rfl rfl ?_|refine zJz rfl rfl ?_|refine zKx rfl rfl rfl ?_|refine zIw rfl rfl ?_);(refine zIv fun Q_ hQ_=>?_;simp (disch:=first|omega|(simp only [List.length_cons,List.length_nil,List.length_append];omega)) only [bb,bp,zLz,↓reduceIte,reduceCtorEq,Nat.reduceEqDiff,Nat.reduceLT,Nat.reduceLeDiff,Nat.reduceAdd,Nat.reduceMul,Nat.reduceSub,Nat.reduceBEq,Int.reduceToNat,cond_true,cond_false,eq_self,beq_self_eq_true,zFw wf,zGy wf,zBw wf,zFx wf,zAy wf,zAx,tEvD24,zIx,zIy,zIz,zHv,zFv,zAw wf];first|(refine zCw (Q:=Q_) (fun hp_=>?_) (fun hp_=>?_) <;> first|(exfalso;omega)|(refine hQ_ _ _ ?_;clear hQ_ Q_))|(refine zBx (Q:=Q_) (fun hp_=>?_) (fun hp_=>?_) <;> first|(exfalso;omega)|(refine hQ_ _ _ ?_;clear hQ_ Q_))|(refine hQ_ _ _ ?_;clear hQ_ Q_)))
  | (refine zHx fun K_ hK_=>?_;simp (disch:=omega) only [zGz,zAz,zHw,↓reduceIte,reduceCtorEq,Nat.reduceEqDiff,Nat.reduceLT];refine hK_ _ ?_;clear hK_ K_)))
  (refine zKz _ _ rfl (ret1 (by decide)) ?_;simp only [zAz,↓reduceIte,reduceCtorEq,Nat.reduceEqDiff];refine zKw rfl (by omega) ?_)
  exact ⟨rfl,rfl⟩
theorem loOf (u v:Int) (h:H) (wf:Wf h):(om Try.prog KK).call (.fn 64 [.agg [ii u,ii v]]) h = .ok (ii u) h:=by
  refine zXz (zLv (fn:=Try.f64) Try.func64 rfl rfl rfl rfl rfl ?_)
  simp only [zLz]
  (repeat' (first
  | (with_reducible first|refine zJw ?_|refine zHz ?_|refine zFz ?_|refine zEv ?_|refine zFy ?_|refine zJv ?_|refine zHy ?_|refine zCz ?_|refine zDw ?_|refine zCy ?_|refine zCv ?_|refine zEx ?_|refine zDz ?_|refine zCx ?_|refine zBy ?_|refine zEz ?_|refine zEy ?_|refine zAv ?_|refine zBz ?_)
  | refine zDy ?_|refine zEw rfl ?_|refine zJy ?_|refine zJx ?_
  | ((first|refine zGv rfl rfl rfl rfl rfl fun K_ hK_=>?_|refine zGw rfl rfl rfl rfl rfl fun K_ hK_=>?_);simp only [zAz,zDx,zGx,↓reduceIte,reduceCtorEq,Nat.reduceEqDiff,Bool.not_true,Bool.not_false];refine hK_ _ ?_;clear hK_ K_)
  | refine zDv (by decide) ?_
  | ((try first|refine zKy rfl rfl rfl ?_|refine zJz rfl rfl ?_|refine zKx rfl rfl rfl ?_|refine zIw rfl rfl ?_);(refine zIv fun Q_ hQ_=>?_;simp (disch:=first|omega|(simp only [List.length_cons,List.length_nil,List.length_append];omega)) only [bb,bp,zLz,↓reduceIte,reduceCtorEq,Nat.reduceEqDiff,Nat.reduceLT,Nat.reduceLeDiff,Nat.reduceAdd,Nat.reduceMul,Nat.reduceSub,Nat.reduceBEq,Int.reduceToNat,cond_true,cond_false,eq_self,beq_self_eq_true,zFw wf,zGy wf,zBw wf,zFx wf,zAy wf,zAx,tEvD24,zIx,zIy,zIz,zHv,zFv,zAw wf];first|(refine zCw (Q:=Q_) (fun hp_=>?_) (fun hp_=>?_) <;> first|(exfalso;omega)|(refine hQ_ _ _ ?_;clear hQ_ Q_))|(refine zBx (Q:=Q_) (fun hp_=>?_) (fun hp_=>?_) <;> first|(exfalso;omega)|(refine hQ_ _ _ ?_;clear hQ_ Q_))|(refine hQ_ _ _ ?_;clear hQ_ Q_)))
  | (refine zHx fun K_ hK_=>?_;simp (disch:=omega) only [zGz,zAz,zHw,↓reduceIte,reduceCtorEq,Nat.reduceEqDiff,Nat.reduceLT];refine hK_ _ ?_;clear hK_ K_)))
  (refine zKz _ _ rfl (ret1 (by decide)) ?_;simp only [zAz,↓reduceIte,reduceCtorEq,Nat.reduceEqDiff];refine zKw rfl (by omega) ?_)
  exact ⟨rfl,rfl⟩
theorem held (g:Nat) (hg:g=63∨g=64) (m p:AV) (ms:List Int) (ps:List (Int × Int)) (hlen:ps.length=ms.length) (hn:ms.length≤1000) (h:H) (wf:Wf h) (hm:Sl h m 1 ms.length (ms.map ii)) (hp:Sl h p 2 ps.length (ps.flatMap rgC)) (fm:AV.cells m=[m]∧oneB m=true) (fp:AV.cells p=[p]∧oneB p=true) :
    (om Try.prog KK).call (.fn 62 [.agg [m,p],.fn g [] []]) h = .ok (ii (holdN (ps.map fun q=>if g=63 then q.2 else q.1) ms:Nat)) h:=by
  obtain ⟨f1,f2⟩:=fm
  obtain ⟨f3,f4⟩:=fp
  have hl : ∀ h',lenE Try.prog 96 p h'=some (ii (ps.length:Int)):=fun h'=>hp.len un_96
  have hpb:plainB Try.prog g=true:=by rcases hg with rfl|rfl <;> first|exact zZw|exact zZx
  have cg : ∀ u v l w,w≤h.clock+l.length→(om Try.prog KK).call (.fn g [.agg [ii u,ii v]]) (X h l w) = .ok (ii (if g=63 then v else u)) (X h l w):=fun u v l w hw=>by
    rcases hg with rfl|rfl
    · exact hiOf u v _ (wf.X hw)
    · exact loOf u v _ (wf.X hw)
  have vl:(ps.map fun q=>if g=63 then q.2 else q.1).length=ps.length:=by simp
  have vg : ∀ j (hj:j<ps.length),(ps.map fun q=>if g=63 then q.2 else q.1).getD j 0=if g=63 then ps[j].2 else ps[j].1:=fun j hj=>by simp [List.getD,hj]
  generalize (ps.map fun q=>if g=63 then q.2 else q.1)=vs at *
  refine zXz (zLv (fn:=Try.f62) Try.func62 rfl rfl rfl rfl rfl ?_)
  simp only [zLz]
  (repeat' (first
  | (with_reducible first|refine zJw ?_|refine zHz ?_|refine zFz ?_|refine zEv ?_|refine zFy ?_|refine zJv ?_|refine zHy ?_|refine zCz ?_|refine zDw ?_|refine zCy ?_|refine zCv ?_|refine zEx ?_|refine zDz ?_|refine zCx ?_|refine zBy ?_|refine zEz ?_|refine zEy ?_|refine zAv ?_|refine zBz ?_)
  | refine zDy ?_|refine zEw rfl ?_|refine zJy ?_|refine zJx ?_
  | ((first|refine zGv rfl rfl rfl rfl rfl fun K_ hK_=>?_|refine zGw rfl rfl rfl rfl rfl fun K_ hK_=>?_);simp only [zAz,zDx,zGx,↓reduceIte,reduceCtorEq,Nat.reduceEqDiff,Bool.not_true,Bool.not_false];refine hK_ _ ?_;clear hK_ K_)
  | refine zDv (by decide) ?_
  | ((try first|refine zKy rfl rfl rfl ?_|refine zJz rfl rfl ?_|refine zKx rfl rfl rfl ?_|refine zIw rfl rfl ?_);(refine zIv fun Q_ hQ_=>?_;simp (disch:=first|omega|(simp only [List.length_cons,List.length_nil,List.length_append];omega)) only [bb,bp,zLz,↓reduceIte,reduceCtorEq,Nat.reduceEqDiff,Nat.reduceLT,Nat.reduceLeDiff,Nat.reduceAdd,Nat.reduceMul,Nat.reduceSub,Nat.reduceBEq,Int.reduceToNat,cond_true,cond_false,eq_self,beq_self_eq_true,hl,f1,f2,f3,f4,zFw wf,zGy wf,zBw wf,zFx wf,zAy wf,zAx,tEvD24,zIx,zIy,zIz,zHv,zFv,zAw wf];first|(refine zCw (Q:=Q_) (fun hp_=>?_) (fun hp_=>?_) <;> first|(exfalso;omega)|(refine hQ_ _ _ ?_;clear hQ_ Q_))|(refine zBx (Q:=Q_) (fun hp_=>?_) (fun hp_=>?_) <;> first|(exfalso;omega)|(refine hQ_ _ _ ?_;clear hQ_ Q_))|(refine hQ_ _ _ ?_;clear hQ_ Q_)))
  | (refine zHx fun K_ hK_=>?_;simp (disch:=omega) only [zGz,zAz,zHw,↓reduceIte,reduceCtorEq,Nat.reduceEqDiff,Nat.reduceLT];refine hK_ _ ?_;clear hK_ K_)))
  refine zZv (fun (i:Nat) f d h'=>i≤ps.length∧(∀ j,j<i→vs.getD j 0≤ms.getD j 0)∧f 1 = .fn g [] []∧f 2 = .ptr (nx h 0) 0∧f 8=p∧f 9=ii (ps.length:Int)∧f 10=ii (i:Int)∧d=[] ∧ ∃ G,h'=X h (.cells (zBv [m,p]) 98 :: G) h.clock) (fun i=>ps.length - i) ?_ (ps.length+1) 0 (by omega) ?_
  · rintro i f d h' ⟨hi,hall,g1,g2,g8,g9,g10,rfl,G,rfl⟩
    by_cases hlt:i<ps.length
    · obtain ⟨id,off,hix,hld⟩:=hp.at wf hlt ik_96
      have hrow : ∀ l w,loadAgg id off (some 2) (X h l w)=some (.agg [ii ps[i].1,ii ps[i].2]):=fun l w=>by rw [(hld l w).2,flat_at rgC_length hlt];rfl
      obtain ⟨ie,oe,hxe,hle⟩:=hm.at1 wf (i:=i) (by omega) ik_22
      have hle' : ∀ J w,load1 ie oe (X h J w)=some (ii (ms.getD i 0)):=fun J w=>by
        rw [hle,List.getElem?_map];simp [List.getD,show i<ms.length by omega]
      have hv:=vg i hlt
      generalize ps[i].1=p1 at *
      generalize ps[i].2=p2 at *
      generalize hmi:ms.getD i 0=mi at *
      have cgi:=cg p1 p2
      rw [← hv] at cgi
      generalize hvi:vs.getD i 0=vi at *
      (repeat' (first
  | (with_reducible first|refine zJw ?_|refine zHz ?_|refine zFz ?_|refine zEv ?_|refine zFy ?_|refine zJv ?_|refine zHy ?_|refine zCz ?_|refine zDw ?_|refine zCy ?_|refine zCv ?_|refine zEx ?_|refine zDz ?_|refine zCx ?_|refine zBy ?_|refine zEz ?_|refine zEy ?_|refine zAv ?_|refine zBz ?_)
  | refine zDy ?_|refine zEw rfl ?_|refine zJy ?_|refine zJx ?_
  | ((first|refine zGv rfl rfl rfl rfl rfl fun K_ hK_=>?_|refine zGw rfl rfl rfl rfl rfl fun K_ hK_=>?_);simp only [zAz,zDx,zGx,↓reduceIte,reduceCtorEq,Nat.reduceEqDiff,Bool.not_true,Bool.not_false];refine hK_ _ ?_;clear hK_ K_)
  | refine zDv (by decide) ?_
  | ((try first|refine zKy rfl rfl rfl ?_|refine zJz rfl rfl ?_|refine zKx rfl rfl rfl ?_|refine zIw rfl rfl ?_);(refine zIv fun Q_ hQ_=>?_;simp (disch:=first|omega|(simp only [List.length_cons,List.length_nil,List.length_append];omega)) only [bb,bp,zLz,↓reduceIte,reduceCtorEq,Nat.reduceEqDiff,Nat.reduceLT,Nat.reduceLeDiff,Nat.reduceAdd,Nat.reduceMul,Nat.reduceSub,Nat.reduceBEq,Int.reduceToNat,cond_true,cond_false,eq_self,beq_self_eq_true,g1,g2,g8,g9,g10,hix,hrow,zFw wf,zGy wf,zBw wf,zFx wf,zAy wf,zAx,tEvD24,zIx,zIy,zIz,zHv,zFv,zAw wf];first|(refine zCw (Q:=Q_) (fun hp_=>?_) (fun hp_=>?_) <;> first|(exfalso;omega)|(refine hQ_ _ _ ?_;clear hQ_ Q_))|(refine zBx (Q:=Q_) (fun hp_=>?_) (fun hp_=>?_) <;> first|(exfalso;omega)|(refine hQ_ _ _ ?_;clear hQ_ Q_))|(refine hQ_ _ _ ?_;clear hQ_ Q_)))
  | (refine zHx fun K_ hK_=>?_;simp (disch:=omega) only [zGz,zAz,zHw,↓reduceIte,reduceCtorEq,Nat.reduceEqDiff,Nat.reduceLT];refine hK_ _ ?_;clear hK_ K_)))
      refine zLx (List.replicate 8 .no++[.full]) (by kernel_rfl) ?_
      (repeat' (first
  | (with_reducible first|refine zJw ?_|refine zHz ?_|refine zFz ?_|refine zEv ?_|refine zFy ?_|refine zJv ?_|refine zHy ?_|refine zCz ?_|refine zDw ?_|refine zCy ?_|refine zCv ?_|refine zEx ?_|refine zDz ?_|refine zCx ?_|refine zBy ?_|refine zEz ?_|refine zEy ?_|refine zAv ?_|refine zBz ?_)
  | refine zDy ?_|refine zEw rfl ?_|refine zJy ?_|refine zJx ?_
  | ((first|refine zGv rfl rfl rfl rfl rfl fun K_ hK_=>?_|refine zGw rfl rfl rfl rfl rfl fun K_ hK_=>?_);simp only [zAz,zDx,zGx,↓reduceIte,reduceCtorEq,Nat.reduceEqDiff,Bool.not_true,Bool.not_false];refine hK_ _ ?_;clear hK_ K_)
  | refine zDv (by decide) ?_
  | ((try first|refine zKy rfl rfl rfl ?_|refine zJz rfl rfl ?_|refine zKx rfl rfl rfl ?_|refine zIw rfl rfl ?_);(refine zIv fun Q_ hQ_=>?_;simp (disch:=first|omega|(simp only [List.length_cons,List.length_nil,List.length_append];omega)) only [bb,bp,zLz,↓reduceIte,reduceCtorEq,Nat.reduceEqDiff,Nat.reduceLT,Nat.reduceLeDiff,Nat.reduceAdd,Nat.reduceMul,Nat.reduceSub,Nat.reduceBEq,Int.reduceToNat,cond_true,cond_false,eq_self,beq_self_eq_true,g1,g2,g8,g9,g10,hpb,xHw,cgi,hxe,hle',f1,f2,f3,f4,zFw wf,zGy wf,zBw wf,zFx wf,zAy wf,zAx,tEvD24,zIx,zIy,zIz,zHv,zFv,zAw wf];first|(refine zCw (Q:=Q_) (fun hp_=>?_) (fun hp_=>?_) <;> first|(exfalso;omega)|(refine hQ_ _ _ ?_;clear hQ_ Q_))|(refine zBx (Q:=Q_) (fun hp_=>?_) (fun hp_=>?_) <;> first|(exfalso;omega)|(refine hQ_ _ _ ?_;clear hQ_ Q_))|(refine hQ_ _ _ ?_;clear hQ_ Q_)))
  | (refine zHx fun K_ hK_=>?_;simp (disch:=omega) only [zGz,zAz,zHw,↓reduceIte,reduceCtorEq,Nat.reduceEqDiff,Nat.reduceLT];refine hK_ _ ?_;clear hK_ K_)))
      · (refine zKz _ _ rfl (ret1 (by decide)) ?_;simp only [zAz,↓reduceIte,reduceCtorEq,Nat.reduceEqDiff];refine zKw rfl (by omega) ?_)
        exact ⟨by rw [holdN_at (vs:=vs) (ms:=ms) (i:=i) (by omega) (by omega) hall (by omega)],rfl⟩
      · refine zLw (i+1) (by omega) ⟨hlt,fun j hj=>?_,by simp only [zAz,↓reduceIte,reduceCtorEq,Nat.reduceEqDiff];exact g1,by simp only [zAz,↓reduceIte,reduceCtorEq,Nat.reduceEqDiff];exact g2,by simp only [zAz,↓reduceIte,reduceCtorEq,Nat.reduceEqDiff];exact g8,by simp only [zAz,↓reduceIte,reduceCtorEq,Nat.reduceEqDiff];exact g9,by simp only [zAz,↓reduceIte,reduceCtorEq,Nat.reduceEqDiff];rfl,rfl,_,rfl⟩
        by_cases hji:j=i
        · rw [hji,hvi,hmi];omega
        · exact hall j (by omega)
    · have hie:i=ps.length:=by omega
      (repeat' (first
  | (with_reducible first|refine zJw ?_|refine zHz ?_|refine zFz ?_|refine zEv ?_|refine zFy ?_|refine zJv ?_|refine zHy ?_|refine zCz ?_|refine zDw ?_|refine zCy ?_|refine zCv ?_|refine zEx ?_|refine zDz ?_|refine zCx ?_|refine zBy ?_|refine zEz ?_|refine zEy ?_|refine zAv ?_|refine zBz ?_)
  | refine zDy ?_|refine zEw rfl ?_|refine zJy ?_|refine zJx ?_
  | ((first|refine zGv rfl rfl rfl rfl rfl fun K_ hK_=>?_|refine zGw rfl rfl rfl rfl rfl fun K_ hK_=>?_);simp only [zAz,zDx,zGx,↓reduceIte,reduceCtorEq,Nat.reduceEqDiff,Bool.not_true,Bool.not_false];refine hK_ _ ?_;clear hK_ K_)
  | refine zDv (by decide) ?_
  | ((try first|refine zKy rfl rfl rfl ?_|refine zJz rfl rfl ?_|refine zKx rfl rfl rfl ?_|refine zIw rfl rfl ?_);(refine zIv fun Q_ hQ_=>?_;simp (disch:=first|omega|(simp only [List.length_cons,List.length_nil,List.length_append];omega)) only [bb,bp,zLz,↓reduceIte,reduceCtorEq,Nat.reduceEqDiff,Nat.reduceLT,Nat.reduceLeDiff,Nat.reduceAdd,Nat.reduceMul,Nat.reduceSub,Nat.reduceBEq,Int.reduceToNat,cond_true,cond_false,eq_self,beq_self_eq_true,g1,g2,g8,g9,g10,hl,zFw wf,zGy wf,zBw wf,zFx wf,zAy wf,zAx,tEvD24,zIx,zIy,zIz,zHv,zFv,zAw wf];first|(refine zCw (Q:=Q_) (fun hp_=>?_) (fun hp_=>?_) <;> first|(exfalso;omega)|(refine hQ_ _ _ ?_;clear hQ_ Q_))|(refine zBx (Q:=Q_) (fun hp_=>?_) (fun hp_=>?_) <;> first|(exfalso;omega)|(refine hQ_ _ _ ?_;clear hQ_ Q_))|(refine hQ_ _ _ ?_;clear hQ_ Q_)))
  | (refine zHx fun K_ hK_=>?_;simp (disch:=omega) only [zGz,zAz,zHw,↓reduceIte,reduceCtorEq,Nat.reduceEqDiff,Nat.reduceLT];refine hK_ _ ?_;clear hK_ K_)))
      (refine zKz _ _ rfl (ret1 (by decide)) ?_;simp only [zAz,↓reduceIte,reduceCtorEq,Nat.reduceEqDiff];refine zKw rfl (by omega) ?_)
      exact ⟨by rw [holdN_all (vs:=vs) (ms:=ms) (by omega) (fun j hj=>hall j (by omega)),vl],rfl⟩
  · exact ⟨Nat.zero_le _,fun j hj=>absurd hj (Nat.not_lt_zero j),by simp only [zAz,↓reduceIte,reduceCtorEq,Nat.reduceEqDiff],by simp only [zAz,↓reduceIte,reduceCtorEq,Nat.reduceEqDiff],by simp only [zAz,↓reduceIte,reduceCtorEq,Nat.reduceEqDiff],by simp only [zAz,↓reduceIte,reduceCtorEq,Nat.reduceEqDiff],by first|(simp only [zAz,↓reduceIte,reduceCtorEq,Nat.reduceEqDiff];done)|(simp only [zAz,↓reduceIte,reduceCtorEq,Nat.reduceEqDiff];rfl),rfl,[],rfl⟩
end Go.Proofs.Ythaleckfgcgegaa
end

section
namespace Go.Proofs.Ythaleckfgcgegaa
open Go.ChangeShapes Go.WideShapes Go.ChangeAt Go.RowKit Go.Ev
set_option maxRecDepth 100000
set_option maxHeartbeats 0
instance:Inhabited Ln:=⟨⟨.nils,.nils,[],[]⟩⟩
instance:Inhabited Te:=⟨⟨0,0,0,0,0,0,0,0,0,0,0,0,0,0,0,0⟩⟩
section
variable {H:Type} {enc:TypeId × Value→H} {r:Reach} {bs:Nat}
theorem lines_in {W:World} {v:Value} {fuel:Nat} {x:DataW H × List MemPlace} (hval:Cell.okWide Try.prog W r bs 43 v) (h:DataW.trod enc Try.prog W 0 (fun _=>true) true fuel 43 [v]=some x) :
    ∃ (a:AV) (ls:List Ln),VR (startWR W) a v∧CapU 2 a∧LinesR (startW W) a ls:=by
  obtain ⟨f0,f1,hu,o0,o1,t0,t1⟩:=under24
  obtain ⟨ls,b,h1,h2,h3,h4⟩:=open_elems (f:=lnC) (R:=fun l=>LineR (startW W) l.a l.b l.re l.cf) Try.underlying43 cells24 (by decide) xKw hval h (fun cs n y hl hy=>by
    obtain ⟨xs,k,_,_,_,hxl,hf⟩:=DataW.trod_struct hu hy
    have g0:=hf 0 f0 rfl
    have g1:=hf 1 f1 rfl
    rw [o0,t0,cells22] at g0
    rw [o1,t1,cells22] at g1
    have hl2:xs.length=2:=hxl
    rw [List.getElem?_eq_getElem (by omega)] at g0 g1
    match cs,hl with
    | [u,w],_=>
      obtain ⟨re,a,q1,_,q3⟩:=xPv Try.underlying22 Try.underlying2 cells2 g0
      obtain ⟨cf,b,q4,_,q6⟩:=xPv Try.underlying22 Try.underlying2 cells2 g1
      refine ⟨⟨a,b,re,cf⟩,fun k hk=>?_,startW_wf W,q3,q6⟩
      match k,hk with
      | 0,_=>exact q1
      | 1,_=>exact q4)
  exact ⟨b,ls,h1,h2.capu 2,startW_wf W,h3,h4⟩
end
end Go.Proofs.Ythaleckfgcgegaa
end

section
namespace Go.Proofs.Ythaleckfgcgegaa
open Go.Ev
set_option maxRecDepth 100000
set_option linter.unusedSimpArgs false
set_option linter.unusedVariables false
set_option maxHeartbeats 2000000
theorem tEvD29 :type_of% (And.intro (And.intro (And.intro (And.intro (And.intro (And.intro (And.intro (@yYz) (@yXv)) (And.intro (@yXw) (And.intro (@yXx) (@yXy)))) (And.intro (And.intro (@yXz) (And.intro (@yWv) (@yWw))) (And.intro (@zWz) (And.intro (@ia_2) (@sz_2))))) (And.intro (And.intro (And.intro (@ia_3) (@sz_3)) (And.intro (@ia_4) (And.intro (@sz_4) (@yWx)))) (And.intro (And.intro (@yFw) (And.intro (@yWy) (@yFx))) (And.intro (@yWz) (And.intro (@yFy) (@yVv)))))) (And.intro (And.intro (And.intro (And.intro (@yFz) (@yVw)) (And.intro (@yEv) (And.intro (@yVx) (@yEw)))) (And.intro (And.intro (@yVy) (And.intro (@yEx) (@yVz))) (And.intro (@yEy) (And.intro (@yUv) (@yEz))))) (And.intro (And.intro (And.intro (@yUw) (And.intro (@yDv) (@yUx))) (And.intro (@zYx) (And.intro (@yUy) (@yDw)))) (And.intro (And.intro (@yUz) (And.intro (@yDx) (@yTv))) (And.intro (@yDy) (And.intro (@yTw) (@yDz))))))) (And.intro (And.intro (And.intro (And.intro (And.intro (@yTx) (@yCv)) (And.intro (@yTy) (And.intro (@yCw) (@yTz)))) (And.intro (And.intro (@yCx) (And.intro (@ySv) (@yCy))) (And.intro (@ySw) (And.intro (@yCz) (@ySx))))) (And.intro (And.intro (And.intro (@yBv) (@zVv)) (And.intro (@zUx) (And.intro (@zVw) (@zUy)))) (And.intro (And.intro (@zVx) (And.intro (@zUz) (@zVy))) (And.intro (@zTv) (And.intro (@zVz) (@zTw)))))) (And.intro (And.intro (And.intro (And.intro (@zUv) (@zTx)) (And.intro (@zUw) (And.intro (@zTy) (@ze_2)))) (And.intro (And.intro (@ze_3) (And.intro (@ze_4) (@yBw))) (And.intro (@yBx) (And.intro (@yBy) (@yBz))))) (And.intro (And.intro (And.intro (@yAv) (And.intro (@yAw) (@xOw))) (And.intro (@yAx) (And.intro (@yAy) (@yAz)))) (And.intro (And.intro (@zTz) (And.intro (@zSy) (@zSz))) (And.intro (@zRv) (And.intro (@zRw) (@zRx)))))))) (And.intro (And.intro (And.intro (And.intro (And.intro (And.intro (@zRy) (@zRz)) (And.intro (@zQv) (And.intro (@zQw) (@zQx)))) (And.intro (And.intro (@zQy) (And.intro (@zQz) (@zPv))) (And.intro (@zPw) (And.intro (@zPx) (@zPy))))) (And.intro (And.intro (And.intro (@zPz) (@zOv)) (And.intro (@zOw) (And.intro (@zOx) (@zOy)))) (And.intro (And.intro (@zOz) (And.intro (@zNv) (@zNw))) (And.intro (@zNx) (And.intro (@zNy) (@zNz)))))) (And.intro (And.intro (And.intro (And.intro (@zMv) (@ySy)) (And.intro (@ySz) (And.intro (@yRv) (@yRw)))) (And.intro (And.intro (@yRx) (And.intro (@yRy) (@yRz))) (And.intro (@yQv) (And.intro (@yQw) (@yQx))))) (And.intro (And.intro (And.intro (@yQy) (And.intro (@yQz) (@yPv))) (And.intro (@yPw) (And.intro (@yPx) (@yPy)))) (And.intro (And.intro (@yPz) (And.intro (@yOv) (@yOw))) (And.intro (@yOx) (And.intro (@yOy) (@yOz))))))) (And.intro (And.intro (And.intro (And.intro (And.intro (@yNv) (@yNw)) (And.intro (@yNx) (And.intro (@yNy) (@yNz)))) (And.intro (And.intro (@yMv) (And.intro (@yMw) (@yMx))) (And.intro (@yMy) (And.intro (@yMz) (@yLv))))) (And.intro (And.intro (And.intro (@yLw) (@yLx)) (And.intro (@yLy) (And.intro (@yLz) (@yKv)))) (And.intro (And.intro (@yKw) (And.intro (@yKx) (@yKy))) (And.intro (@yKz) (And.intro (@yJv) (@yJw)))))) (And.intro (And.intro (And.intro (And.intro (@yJx) (@yJy)) (And.intro (@yJz) (And.intro (@yIv) (@yIw)))) (And.intro (And.intro (@yIx) (And.intro (@zZw) (@zZx))) (And.intro (@yIy) (And.intro (@yIz) (@yHv))))) (And.intro (And.intro (And.intro (@yHw) (And.intro (@yHx) (@yHy))) (And.intro (@yHz) (And.intro (@yGv) (@yGw)))) (And.intro (And.intro (@yGx) (And.intro (@yGy) (@zZy))) (And.intro (@yGz) (And.intro (@yFv) (@zZz))))))))):=And.intro (And.intro (And.intro (And.intro (And.intro (And.intro (And.intro (@yYz) (@yXv)) (And.intro (@yXw) (And.intro (@yXx) (@yXy)))) (And.intro (And.intro (@yXz) (And.intro (@yWv) (@yWw))) (And.intro (@zWz) (And.intro (@ia_2) (@sz_2))))) (And.intro (And.intro (And.intro (@ia_3) (@sz_3)) (And.intro (@ia_4) (And.intro (@sz_4) (@yWx)))) (And.intro (And.intro (@yFw) (And.intro (@yWy) (@yFx))) (And.intro (@yWz) (And.intro (@yFy) (@yVv)))))) (And.intro (And.intro (And.intro (And.intro (@yFz) (@yVw)) (And.intro (@yEv) (And.intro (@yVx) (@yEw)))) (And.intro (And.intro (@yVy) (And.intro (@yEx) (@yVz))) (And.intro (@yEy) (And.intro (@yUv) (@yEz))))) (And.intro (And.intro (And.intro (@yUw) (And.intro (@yDv) (@yUx))) (And.intro (@zYx) (And.intro (@yUy) (@yDw)))) (And.intro (And.intro (@yUz) (And.intro (@yDx) (@yTv))) (And.intro (@yDy) (And.intro (@yTw) (@yDz))))))) (And.intro (And.intro (And.intro (And.intro (And.intro (@yTx) (@yCv)) (And.intro (@yTy) (And.intro (@yCw) (@yTz)))) (And.intro (And.intro (@yCx) (And.intro (@ySv) (@yCy))) (And.intro (@ySw) (And.intro (@yCz) (@ySx))))) (And.intro (And.intro (And.intro (@yBv) (@zVv)) (And.intro (@zUx) (And.intro (@zVw) (@zUy)))) (And.intro (And.intro (@zVx) (And.intro (@zUz) (@zVy))) (And.intro (@zTv) (And.intro (@zVz) (@zTw)))))) (And.intro (And.intro (And.intro (And.intro (@zUv) (@zTx)) (And.intro (@zUw) (And.intro (@zTy) (@ze_2)))) (And.intro (And.intro (@ze_3) (And.intro (@ze_4) (@yBw))) (And.intro (@yBx) (And.intro (@yBy) (@yBz))))) (And.intro (And.intro (And.intro (@yAv) (And.intro (@yAw) (@xOw))) (And.intro (@yAx) (And.intro (@yAy) (@yAz)))) (And.intro (And.intro (@zTz) (And.intro (@zSy) (@zSz))) (And.intro (@zRv) (And.intro (@zRw) (@zRx)))))))) (And.intro (And.intro (And.intro (And.intro (And.intro (And.intro (@zRy) (@zRz)) (And.intro (@zQv) (And.intro (@zQw) (@zQx)))) (And.intro (And.intro (@zQy) (And.intro (@zQz) (@zPv))) (And.intro (@zPw) (And.intro (@zPx) (@zPy))))) (And.intro (And.intro (And.intro (@zPz) (@zOv)) (And.intro (@zOw) (And.intro (@zOx) (@zOy)))) (And.intro (And.intro (@zOz) (And.intro (@zNv) (@zNw))) (And.intro (@zNx) (And.intro (@zNy) (@zNz)))))) (And.intro (And.intro (And.intro (And.intro (@zMv) (@ySy)) (And.intro (@ySz) (And.intro (@yRv) (@yRw)))) (And.intro (And.intro (@yRx) (And.intro (@yRy) (@yRz))) (And.intro (@yQv) (And.intro (@yQw) (@yQx))))) (And.intro (And.intro (And.intro (@yQy) (And.intro (@yQz) (@yPv))) (And.intro (@yPw) (And.intro (@yPx) (@yPy)))) (And.intro (And.intro (@yPz) (And.intro (@yOv) (@yOw))) (And.intro (@yOx) (And.intro (@yOy) (@yOz))))))) (And.intro (And.intro (And.intro (And.intro (And.intro (@yNv) (@yNw)) (And.intro (@yNx) (And.intro (@yNy) (@yNz)))) (And.intro (And.intro (@yMv) (And.intro (@yMw) (@yMx))) (And.intro (@yMy) (And.intro (@yMz) (@yLv))))) (And.intro (And.intro (And.intro (@yLw) (@yLx)) (And.intro (@yLy) (And.intro (@yLz) (@yKv)))) (And.intro (And.intro (@yKw) (And.intro (@yKx) (@yKy))) (And.intro (@yKz) (And.intro (@yJv) (@yJw)))))) (And.intro (And.intro (And.intro (And.intro (@yJx) (@yJy)) (And.intro (@yJz) (And.intro (@yIv) (@yIw)))) (And.intro (And.intro (@yIx) (And.intro (@zZw) (@zZx))) (And.intro (@yIy) (And.intro (@yIz) (@yHv))))) (And.intro (And.intro (And.intro (@yHw) (And.intro (@yHx) (@yHy))) (And.intro (@yHz) (And.intro (@yGv) (@yGw)))) (And.intro (And.intro (@yGx) (And.intro (@yGy) (@zZy))) (And.intro (@yGz) (And.intro (@yFv) (@zZz))))))))
def chkI (o:Option AV) (n:Int):Bool:=match o with
  | some (.int .i64 m)=>decide (m=n)
  | _=>false
theorem chkI_eq {o:Option AV} {n:Int} (h:chkI o n=true):o=some (ii n):=by
  unfold chkI at h
  split at h
  · rw [of_decide_eq_true h]
  · cases h
theorem shr_run :(List.range 32).all (fun b=>(List.range 5).all fun k=>chkI (binE Try.prog .shr 3 (.tmp 7) (.tmp 8) (ii (b:Int)) (ii (k:Int))) ((b / 2 ^ k:Nat):Int))=true:=by kernel_rfl
theorem shr_at {b k:Nat} (hb:b<32) (hk:k<5):binE Try.prog .shr 3 (.tmp 7) (.tmp 8) (ii (b:Int)) (ii (k:Int))=some (ii ((b / 2 ^ k:Nat):Int)):=by
  have h:=shr_run
  rw [List.all_eq_true] at h
  have h2:=h b (List.mem_range.2 hb)
  rw [List.all_eq_true] at h2
  exact chkI_eq (h2 k (List.mem_range.2 hk))
def bitE (lo hi:Int) (b k:Nat):Int:=if (b / 2 ^ k) % 2=1 then hi else lo
theorem endB (lo hi:Int) (b k:Nat) (hb:b<32) (hk:k<5) (h:H) (wf:Wf h):(om Try.prog KK).call (.fn 74 [.agg [ii lo,ii hi],ii (b:Int),ii (k:Int)]) h = .ok (ii (bitE lo hi b k)) h:=by
  have hs:=shr_at hb hk
  unfold bitE
  generalize b / 2 ^ k=q at *
  have hm:(q:Int).tmod 2=((q % 2:Nat):Int):=by
    rw [Int.tmod_eq_emod_of_nonneg (by omega)];omega
  refine zXz (zLv (fn:=Try.f74) Try.func74 rfl rfl rfl rfl rfl ?_)
  simp only [zLz]
  (repeat' (first
  | (with_reducible first|refine zJw ?_|refine zHz ?_|refine zFz ?_|refine zEv ?_|refine zFy ?_|refine zJv ?_|refine zHy ?_|refine zCz ?_|refine zDw ?_|refine zCy ?_|refine zCv ?_|refine zEx ?_|refine zDz ?_|refine zCx ?_|refine zBy ?_|refine zEz ?_|refine zEy ?_|refine zAv ?_|refine zBz ?_)
  | refine zDy ?_|refine zEw rfl ?_|refine zJy ?_|refine zJx ?_
  | ((first|refine zGv rfl rfl rfl rfl rfl fun K_ hK_=>?_|refine zGw rfl rfl rfl rfl rfl fun K_ hK_=>?_);simp only [zAz,zDx,zGx,↓reduceIte,reduceCtorEq,Nat.reduceEqDiff,Bool.not_true,Bool.not_false];refine hK_ _ ?_;clear hK_ K_)
  | refine zDv (by decide) ?_
  | ((try first|refine zKy rfl rfl rfl ?_|refine zJz rfl rfl ?_|refine zKx rfl rfl rfl ?_|refine zIw rfl rfl ?_);(refine zIv fun Q_ hQ_=>?_;simp (disch:=first|omega|(simp only [List.length_cons,List.length_nil,List.length_append];omega)) only [bb,bp,zLz,↓reduceIte,reduceCtorEq,Nat.reduceEqDiff,Nat.reduceLT,Nat.reduceLeDiff,Nat.reduceAdd,Nat.reduceMul,Nat.reduceSub,Nat.reduceBEq,Int.reduceToNat,cond_true,cond_false,eq_self,beq_self_eq_true,hs,b_rem (show (2:Int)≠0 by decide),hm,zFw wf,zGy wf,zBw wf,zFx wf,zAy wf,zAx,tEvD29,zIx,zIy,zIz,zHv,zFv,zAw wf];first|(refine zCw (Q:=Q_) (fun hp_=>?_) (fun hp_=>?_) <;> first|(exfalso;omega)|(refine hQ_ _ _ ?_;clear hQ_ Q_))|(refine zBx (Q:=Q_) (fun hp_=>?_) (fun hp_=>?_) <;> first|(exfalso;omega)|(refine hQ_ _ _ ?_;clear hQ_ Q_))|(refine hQ_ _ _ ?_;clear hQ_ Q_)))
  | (refine zHx fun K_ hK_=>?_;simp (disch:=omega) only [zGz,zAz,zHw,↓reduceIte,reduceCtorEq,Nat.reduceEqDiff,Nat.reduceLT];refine hK_ _ ?_;clear hK_ K_)))
  · (refine zKz _ _ rfl (ret1 (by decide)) ?_;simp only [zAz,↓reduceIte,reduceCtorEq,Nat.reduceEqDiff];refine zKw rfl (by omega) ?_)
    exact ⟨by rw [if_pos (by omega)],rfl⟩
  · (refine zKz _ _ rfl (ret1 (by decide)) ?_;simp only [zAz,↓reduceIte,reduceCtorEq,Nat.reduceEqDiff];refine zKw rfl (by omega) ?_)
    exact ⟨by rw [if_neg (by omega)],rfl⟩
def btT (T:Te) (o:Int) (b:Nat):Tr:=⟨bitE T.f0 T.f1 b 0,bitE T.t0 T.t1 b 1,bitE T.s0 T.s1 b 2,o,bitE T.b0 T.b1 b 3,bitE T.r0 T.r1 b 4⟩
theorem bitE_in {lo hi:Int} (h:lo≤hi) (b k:Nat):lo≤bitE lo hi b k∧bitE lo hi b k≤hi:=by unfold bitE;split <;> omega
theorem btT_is {T:Te} (k:okT T) {o:Int} (ho:T.o0≤o∧o≤T.o1) (b:Nat):isT T (btT T o b):=
  ⟨bitE_in k.f.2.1 b 0,bitE_in k.t.2.1 b 1,bitE_in k.s.2.1 b 2,ho,bitE_in k.b.2.1 b 3,bitE_in k.r.2.1 b 4⟩
theorem btT_hi (T:Te) (o:Int):btT T o 21=cand T true o:=rfl
theorem btT_lo (T:Te) (o:Int):btT T o 10=cand T false o:=rfl
theorem coef_in {T:Te} (k:okT T) {re cf:List Int} (kl:okL re cf) (hin:inAll T re) {x:Tr} (kx:isT T x) : -1000000000000≤coef T re cf x∧coef T re cf x≤1000000000000:=by
  have kf:=k.f
  have ko:=k.o
  have kb:=k.b
  have kr:=k.r
  have xf:=kx.f
  have xo:=kx.o
  have xb:=kx.b
  have xr:=kx.r
  obtain ⟨h1,h2⟩:=xDw k hin kx
  have hm:=meas_in k (f:=x.f) (by omega)
  have hm2:=xAv hm (b:=1000 - x.b) (y:=1000) ⟨by omega,by omega⟩
  have hd2:=Int.ediv_nonneg hm2.1 (show (0:Int)≤1000 by decide)
  have hd3:meas T x.f * (1000 - x.b) / 1000≤meas T x.f * (1000 - x.b):=Int.ediv_le_self _ hm2.1
  have g1:=xAv (a:=1000+x.o) (x:=2000) ⟨by omega,by omega⟩ (fr_in kl h1)
  have g2:=xAv (a:=1000+x.o) (x:=2000) ⟨by omega,by omega⟩ (fr_in kl h2)
  have g3:=Int.ediv_nonneg g1.1 (show (0:Int)≤1000 by decide)
  have g4:(1000+x.o) * fr re cf (mo T x.t) / 1000≤_:=Int.ediv_le_self _ g1.1
  have g5:=Int.ediv_nonneg g2.1 (show (0:Int)≤1000 by decide)
  have g6:(1000+x.o) * fr re cf (sh T x.s) / 1000≤_:=Int.ediv_le_self _ g2.1
  unfold coef formed
  omega
def Seen (T:Te) (ls:List Ln) (mn mx:Int) (i:Nat) (o:Int) (hi lo:Bool):Prop:=
  (∀ j (hj:j<ls.length),(j<i → ∀ o',T.o0≤o'∧o'≤T.o1→mn≤coef T ls[j].re ls[j].cf (cand T false o')∧coef T ls[j].re ls[j].cf (cand T true o')≤mx) ∧
    (j=i→(∀ o',T.o0≤o'∧o'<o→mn≤coef T ls[j].re ls[j].cf (cand T false o')∧coef T ls[j].re ls[j].cf (cand T true o')≤mx)∧(hi=true→coef T ls[j].re ls[j].cf (cand T true o)≤mx)∧(lo=true→mn≤coef T ls[j].re ls[j].cf (cand T false o))))
theorem Seen.bit {T:Te} {ls:List Ln} {mn mx:Int} {i:Nat} {o:Int} {b:Nat} (s:Seen T ls mn mx i o (decide (21<b)) (decide (10<b))) (hi:i<ls.length) (C:Int) (h21:b=21→coef T ls[i].re ls[i].cf (cand T true o)=C) (h10:b=10→coef T ls[i].re ls[i].cf (cand T false o)=C) :
    Seen T ls (min mn C) (max mx C) i o (decide (21<b+1)) (decide (10<b+1)):=fun j hj=>by
  obtain ⟨s1,s2⟩:=s j hj
  refine ⟨fun hji o' ho=>?_,fun e=>?_⟩
  · have:=s1 hji o' ho;omega
  · subst e
    obtain ⟨s3,s4,s5⟩:=s2 rfl
    refine ⟨fun o' ho=>?_,fun e=>?_,fun e=>?_⟩
    · have:=s3 o' ho;omega
    · have e':=of_decide_eq_true e
      by_cases hb:b=21
      · have:=h21 hb;omega
      · have:=s4 (decide_eq_true (by omega));omega
    · have e':=of_decide_eq_true e
      by_cases hb:b=10
      · have:=h10 hb;omega
      · have:=s5 (decide_eq_true (by omega));omega
theorem Seen.form {T:Te} {ls:List Ln} {mn mx:Int} {i:Nat} {o:Int} (s:Seen T ls mn mx i o true true):Seen T ls mn mx i (o+1) false false:=fun j hj=>by
  obtain ⟨s1,s2⟩:=s j hj
  refine ⟨s1,fun e=>?_⟩
  obtain ⟨s3,s4,s5⟩:=s2 e
  refine ⟨fun o' ho=>?_,fun q=>(by cases q),fun q=>(by cases q)⟩
  by_cases h:o'=o
  · rw [h];exact ⟨s5 rfl,s4 rfl⟩
  · exact s3 o' (by omega)
theorem Seen.line {T:Te} {ls:List Ln} {mn mx:Int} {i:Nat} {o:Int} (ho:T.o1<o) (s:Seen T ls mn mx i o false false):Seen T ls mn mx (i+1) T.o0 false false:=fun j hj=>by
  obtain ⟨s1,s2⟩:=s j hj
  refine ⟨fun hji o' ho'=>?_,fun e=>⟨fun o' ho'=>by omega,fun q=>(by cases q),fun q=>(by cases q)⟩⟩
  by_cases h:j=i
  · exact (s2 h).1 o' (by omega)
  · exact s1 (by omega) o' ho'
theorem Seen.init (T:Te) (ls:List Ln) (mn mx:Int):Seen T ls mn mx 0 T.o0 false false:=fun j hj=>
  ⟨fun h=>absurd h (Nat.not_lt_zero j),fun _=>⟨fun o' ho=>by omega,fun q=>(by cases q),fun q=>(by cases q)⟩⟩
theorem Seen.done {T:Te} {ls:List Ln} {mn mx:Int} (k:okT T) (hk:okLs ls) (s:Seen T ls mn mx ls.length T.o0 false false):mn≤spanV T ls false∧spanV T ls true≤mx:=by
  constructor
  · obtain ⟨i,hi,o,ho,e⟩:=wBy k hk false
    rw [e];exact ((s i hi).1 hi o ho).1
  · obtain ⟨i,hi,o,ho,e⟩:=wBy k hk true
    rw [e];exact ((s i hi).1 hi o ho).2
theorem spanned (T:Te) (k:okT T) (s:AV) (ls:List Ln) (hk:okLs ls) (hr:rk T ls) (h:H) (x:LinesR h s ls):(om Try.prog KK).call (.fn 58 [.agg [ii T.sp,ii T.lo,ii T.we,ii T.al,ii T.f0,ii T.f1,ii T.t0,ii T.t1,ii T.s0,ii T.s1,ii T.o0,ii T.o1,ii T.b0,ii T.b1,ii T.r0,ii T.r1],s]) h = .ok (.agg [ii (spanV T ls false),ii (spanV T ls true)]) h:=by
  have wf:=x.wf
  have ko:=k.o
  have hn4:=hk.n
  have hl : ∀ h',lenE Try.prog 43 s h'=some (ii (ls.length:Int)):=fun h'=>x.sl.len un_43
  have hb0 : -1000000000000≤spanV T ls false∧spanV T ls false≤1000000000000:=by
    obtain ⟨i,hi,o,ho,e⟩:=wBy k hk false
    rw [e];exact coef_in k (hk.ok _ (List.getElem_mem hi)) (hr _ (List.getElem_mem hi)) (xDv k false ho)
  have hb1 : -1000000000000≤spanV T ls true∧spanV T ls true≤1000000000000:=by
    obtain ⟨i,hi,o,ho,e⟩:=wBy k hk true
    rw [e];exact coef_in k (hk.ok _ (List.getElem_mem hi)) (hr _ (List.getElem_mem hi)) (xDv k true ho)
  refine zXz (zLv (fn:=Try.f58) Try.func58 rfl rfl rfl rfl rfl ?_)
  simp only [zLz]
  (repeat' (first
  | (with_reducible first|refine zJw ?_|refine zHz ?_|refine zFz ?_|refine zEv ?_|refine zFy ?_|refine zJv ?_|refine zHy ?_|refine zCz ?_|refine zDw ?_|refine zCy ?_|refine zCv ?_|refine zEx ?_|refine zDz ?_|refine zCx ?_|refine zBy ?_|refine zEz ?_|refine zEy ?_|refine zAv ?_|refine zBz ?_)
  | refine zDy ?_|refine zEw rfl ?_|refine zJy ?_|refine zJx ?_
  | ((first|refine zGv rfl rfl rfl rfl rfl fun K_ hK_=>?_|refine zGw rfl rfl rfl rfl rfl fun K_ hK_=>?_);simp only [zAz,zDx,zGx,↓reduceIte,reduceCtorEq,Nat.reduceEqDiff,Bool.not_true,Bool.not_false];refine hK_ _ ?_;clear hK_ K_)
  | refine zDv (by decide) ?_
  | ((try first|refine zKy rfl rfl rfl ?_|refine zJz rfl rfl ?_|refine zKx rfl rfl rfl ?_|refine zIw rfl rfl ?_);(refine zIv fun Q_ hQ_=>?_;simp (disch:=first|omega|(simp only [List.length_cons,List.length_nil,List.length_append];omega)) only [bb,bp,zLz,↓reduceIte,reduceCtorEq,Nat.reduceEqDiff,Nat.reduceLT,Nat.reduceLeDiff,Nat.reduceAdd,Nat.reduceMul,Nat.reduceSub,Nat.reduceBEq,Int.reduceToNat,cond_true,cond_false,eq_self,beq_self_eq_true,zFw wf,zGy wf,zBw wf,zFx wf,zAy wf,zAx,tEvD29,zIx,zIy,zIz,zHv,zFv,zAw wf];first|(refine zCw (Q:=Q_) (fun hp_=>?_) (fun hp_=>?_) <;> first|(exfalso;omega)|(refine hQ_ _ _ ?_;clear hQ_ Q_))|(refine zBx (Q:=Q_) (fun hp_=>?_) (fun hp_=>?_) <;> first|(exfalso;omega)|(refine hQ_ _ _ ?_;clear hQ_ Q_))|(refine hQ_ _ _ ?_;clear hQ_ Q_)))
  | (refine zHx fun K_ hK_=>?_;simp (disch:=omega) only [zGz,zAz,zHw,↓reduceIte,reduceCtorEq,Nat.reduceEqDiff,Nat.reduceLT];refine hK_ _ ?_;clear hK_ K_)))
  refine zZv (fun (i:Nat) f d h'=>i≤ls.length∧f 1=s∧f 2 = .ptr (nx h 0) 0∧f 4 = .ptr (nx h 1) 0∧f 5 = .ptr (nx h 2) 0∧f 6=ii (i:Int)∧d=[] ∧
    ∃ mn mx G,h'=X h (.cells (zBv [ii T.sp,ii T.lo,ii T.we,ii T.al,ii T.f0,ii T.f1,ii T.t0,ii T.t1,ii T.s0,ii T.s1,ii T.o0,ii T.o1,ii T.b0,ii T.b1,ii T.r0,ii T.r1]) 35 :: .cells (zBv [ii 0,ii 0]) 33 :: .cells (zBv [ii mn,ii mx]) 33 :: G) h.clock∧spanV T ls false≤mn∧mx≤spanV T ls true∧Seen T ls mn mx i T.o0 false false) (fun i=>ls.length - i) ?_ (ls.length+1) 0 (by omega) ?_
  · rintro i f d h' ⟨hi,g1,g2,g4,g5,g6,rfl,mn,mx,G,rfl,hmn,hmx,hseen⟩
    by_cases hlt:i<ls.length
    · obtain ⟨id,off,hix,hld,hln⟩:=x.at ik_43 hlt
      obtain ⟨⟨fa,fa'⟩,⟨fb,fb'⟩⟩:=hln.flats
      have kl:=hk.ok _ (List.getElem_mem hlt)
      have hin:=hr _ (List.getElem_mem hlt)
      (repeat' (first
  | (with_reducible first|refine zJw ?_|refine zHz ?_|refine zFz ?_|refine zEv ?_|refine zFy ?_|refine zJv ?_|refine zHy ?_|refine zCz ?_|refine zDw ?_|refine zCy ?_|refine zCv ?_|refine zEx ?_|refine zDz ?_|refine zCx ?_|refine zBy ?_|refine zEz ?_|refine zEy ?_|refine zAv ?_|refine zBz ?_)
  | refine zDy ?_|refine zEw rfl ?_|refine zJy ?_|refine zJx ?_
  | ((first|refine zGv rfl rfl rfl rfl rfl fun K_ hK_=>?_|refine zGw rfl rfl rfl rfl rfl fun K_ hK_=>?_);simp only [zAz,zDx,zGx,↓reduceIte,reduceCtorEq,Nat.reduceEqDiff,Bool.not_true,Bool.not_false];refine hK_ _ ?_;clear hK_ K_)
  | refine zDv (by decide) ?_
  | ((try first|refine zKy rfl rfl rfl ?_|refine zJz rfl rfl ?_|refine zKx rfl rfl rfl ?_|refine zIw rfl rfl ?_);(refine zIv fun Q_ hQ_=>?_;simp (disch:=first|omega|(simp only [List.length_cons,List.length_nil,List.length_append];omega)) only [bb,bp,zLz,↓reduceIte,reduceCtorEq,Nat.reduceEqDiff,Nat.reduceLT,Nat.reduceLeDiff,Nat.reduceAdd,Nat.reduceMul,Nat.reduceSub,Nat.reduceBEq,Int.reduceToNat,cond_true,cond_false,eq_self,beq_self_eq_true,g1,g2,g4,g5,g6,hl,zFw wf,zGy wf,zBw wf,zFx wf,zAy wf,zAx,tEvD29,zIx,zIy,zIz,zHv,zFv,zAw wf];first|(refine zCw (Q:=Q_) (fun hp_=>?_) (fun hp_=>?_) <;> first|(exfalso;omega)|(refine hQ_ _ _ ?_;clear hQ_ Q_))|(refine zBx (Q:=Q_) (fun hp_=>?_) (fun hp_=>?_) <;> first|(exfalso;omega)|(refine hQ_ _ _ ?_;clear hQ_ Q_))|(refine hQ_ _ _ ?_;clear hQ_ Q_)))
  | (refine zHx fun K_ hK_=>?_;simp (disch:=omega) only [zGz,zAz,zHw,↓reduceIte,reduceCtorEq,Nat.reduceEqDiff,Nat.reduceLT];refine hK_ _ ?_;clear hK_ K_)))
      refine zZv (fun (n:Nat) f d h'=>T.o0+(n:Int)≤T.o1+1∧f 1=s∧f 2 = .ptr (nx h 0) 0∧f 4 = .ptr (nx h 1) 0∧f 5 = .ptr (nx h 2) 0∧f 6=ii (i:Int)∧f 7=ii (T.o0+(n:Int))∧d=[] ∧
        ∃ mn mx G,h'=X h (.cells (zBv [ii T.sp,ii T.lo,ii T.we,ii T.al,ii T.f0,ii T.f1,ii T.t0,ii T.t1,ii T.s0,ii T.s1,ii T.o0,ii T.o1,ii T.b0,ii T.b1,ii T.r0,ii T.r1]) 35 :: .cells (zBv [ii 0,ii 0]) 33 :: .cells (zBv [ii mn,ii mx]) 33 :: G) h.clock∧spanV T ls false≤mn∧mx≤spanV T ls true∧Seen T ls mn mx i (T.o0+(n:Int)) false false) (fun n=>(T.o1+1 - T.o0).toNat - n) ?_ ((T.o1+1 - T.o0).toNat+1) 0 (by omega) ?_
      · clear g1 g2 g4 g5 g6 hseen hmn hmx
        rintro n f d h' ⟨hn,g1,g2,g4,g5,g6,g7,rfl,mn,mx,G,rfl,hmn,hmx,hseen⟩
        by_cases hnl:T.o0+(n:Int)≤T.o1
        · (repeat' (first
  | (with_reducible first|refine zJw ?_|refine zHz ?_|refine zFz ?_|refine zEv ?_|refine zFy ?_|refine zJv ?_|refine zHy ?_|refine zCz ?_|refine zDw ?_|refine zCy ?_|refine zCv ?_|refine zEx ?_|refine zDz ?_|refine zCx ?_|refine zBy ?_|refine zEz ?_|refine zEy ?_|refine zAv ?_|refine zBz ?_)
  | refine zDy ?_|refine zEw rfl ?_|refine zJy ?_|refine zJx ?_
  | ((first|refine zGv rfl rfl rfl rfl rfl fun K_ hK_=>?_|refine zGw rfl rfl rfl rfl rfl fun K_ hK_=>?_);simp only [zAz,zDx,zGx,↓reduceIte,reduceCtorEq,Nat.reduceEqDiff,Bool.not_true,Bool.not_false];refine hK_ _ ?_;clear hK_ K_)
  | refine zDv (by decide) ?_
  | ((try first|refine zKy rfl rfl rfl ?_|refine zJz rfl rfl ?_|refine zKx rfl rfl rfl ?_|refine zIw rfl rfl ?_);(refine zIv fun Q_ hQ_=>?_;simp (disch:=first|omega|(simp only [List.length_cons,List.length_nil,List.length_append];omega)) only [bb,bp,zLz,↓reduceIte,reduceCtorEq,Nat.reduceEqDiff,Nat.reduceLT,Nat.reduceLeDiff,Nat.reduceAdd,Nat.reduceMul,Nat.reduceSub,Nat.reduceBEq,Int.reduceToNat,cond_true,cond_false,eq_self,beq_self_eq_true,g1,g2,g4,g5,g6,g7,zFw wf,zGy wf,zBw wf,zFx wf,zAy wf,zAx,tEvD29,zIx,zIy,zIz,zHv,zFv,zAw wf];first|(refine zCw (Q:=Q_) (fun hp_=>?_) (fun hp_=>?_) <;> first|(exfalso;omega)|(refine hQ_ _ _ ?_;clear hQ_ Q_))|(refine zBx (Q:=Q_) (fun hp_=>?_) (fun hp_=>?_) <;> first|(exfalso;omega)|(refine hQ_ _ _ ?_;clear hQ_ Q_))|(refine hQ_ _ _ ?_;clear hQ_ Q_)))
  | (refine zHx fun K_ hK_=>?_;simp (disch:=omega) only [zGz,zAz,zHw,↓reduceIte,reduceCtorEq,Nat.reduceEqDiff,Nat.reduceLT];refine hK_ _ ?_;clear hK_ K_)))
          refine zZv (fun (b:Nat) f d h'=>b≤32∧f 1=s∧f 2 = .ptr (nx h 0) 0∧f 4 = .ptr (nx h 1) 0∧f 5 = .ptr (nx h 2) 0∧f 6=ii (i:Int)∧f 7=ii (T.o0+(n:Int))∧f 8=ii (b:Int)∧d=[] ∧
            ∃ mn mx G,h'=X h (.cells (zBv [ii T.sp,ii T.lo,ii T.we,ii T.al,ii T.f0,ii T.f1,ii T.t0,ii T.t1,ii T.s0,ii T.s1,ii T.o0,ii T.o1,ii T.b0,ii T.b1,ii T.r0,ii T.r1]) 35 :: .cells (zBv [ii 0,ii 0]) 33 :: .cells (zBv [ii mn,ii mx]) 33 :: G) h.clock∧spanV T ls false≤mn∧mx≤spanV T ls true∧Seen T ls mn mx i (T.o0+(n:Int)) (decide (21<b)) (decide (10<b))) (fun b=>32 - b) ?_ 33 0 (by omega) ?_
          · clear g1 g2 g4 g5 g6 g7 hseen hmn hmx
            rintro b f d h' ⟨hb,g1,g2,g4,g5,g6,g7,g8,rfl,mn,mx,G,rfl,hmn,hmx,hseen⟩
            by_cases hbl:b<32
            · have kx:=btT_is k (o:=T.o0+(n:Int)) ⟨by omega,hnl⟩ b
              have hbox:=span_box k hk hr (List.getElem_mem hlt) kx
              have hxi:=xDw k hin kx
              have rs:=fun l w hw=>(refship T k ls[i].a ls[i].b ls[i].re ls[i].cf kl (btT T (T.o0+(n:Int)) b) kx _ (hln.up l w hw)).trans (by rw [if_pos hxi,decide_eq_true hxi])
              have e0 : ∀ (lo hi:Int) (l:List AO) (w:Nat),w≤h.clock+l.length→(om Try.prog KK).call (.fn 74 [.agg [ii lo,ii hi],ii (b:Int),ii 0]) (X h l w) = .ok (ii (bitE lo hi b 0)) (X h l w):=fun lo hi l w hw=>endB lo hi b 0 hbl (by decide) _ (wf.X hw)
              have e1 : ∀ (lo hi:Int) (l:List AO) (w:Nat),w≤h.clock+l.length→(om Try.prog KK).call (.fn 74 [.agg [ii lo,ii hi],ii (b:Int),ii 1]) (X h l w) = .ok (ii (bitE lo hi b 1)) (X h l w):=fun lo hi l w hw=>endB lo hi b 1 hbl (by decide) _ (wf.X hw)
              have e2 : ∀ (lo hi:Int) (l:List AO) (w:Nat),w≤h.clock+l.length→(om Try.prog KK).call (.fn 74 [.agg [ii lo,ii hi],ii (b:Int),ii 2]) (X h l w) = .ok (ii (bitE lo hi b 2)) (X h l w):=fun lo hi l w hw=>endB lo hi b 2 hbl (by decide) _ (wf.X hw)
              have e3 : ∀ (lo hi:Int) (l:List AO) (w:Nat),w≤h.clock+l.length→(om Try.prog KK).call (.fn 74 [.agg [ii lo,ii hi],ii (b:Int),ii 3]) (X h l w) = .ok (ii (bitE lo hi b 3)) (X h l w):=fun lo hi l w hw=>endB lo hi b 3 hbl (by decide) _ (wf.X hw)
              have e4 : ∀ (lo hi:Int) (l:List AO) (w:Nat),w≤h.clock+l.length→(om Try.prog KK).call (.fn 74 [.agg [ii lo,ii hi],ii (b:Int),ii 4]) (X h l w) = .ok (ii (bitE lo hi b 4)) (X h l w):=fun lo hi l w hw=>endB lo hi b 4 hbl (by decide) _ (wf.X hw)
              have h21:b=21→coef T ls[i].re ls[i].cf (cand T true (T.o0+(n:Int)))=coef T ls[i].re ls[i].cf (btT T (T.o0+(n:Int)) b):=fun e=>by rw [e,btT_hi]
              have h10:b=10→coef T ls[i].re ls[i].cf (cand T false (T.o0+(n:Int)))=coef T ls[i].re ls[i].cf (btT T (T.o0+(n:Int)) b):=fun e=>by rw [e,btT_lo]
              clear kx hxi
              unfold btT at *
              simp only at rs
              generalize coef T ls[i].re ls[i].cf ⟨bitE T.f0 T.f1 b 0,bitE T.t0 T.t1 b 1,bitE T.s0 T.s1 b 2,T.o0+(n:Int),bitE T.b0 T.b1 b 3,bitE T.r0 T.r1 b 4⟩=C at *
              (repeat' (first
  | (with_reducible first|refine zJw ?_|refine zHz ?_|refine zFz ?_|refine zEv ?_|refine zFy ?_|refine zJv ?_|refine zHy ?_|refine zCz ?_|refine zDw ?_|refine zCy ?_|refine zCv ?_|refine zEx ?_|refine zDz ?_|refine zCx ?_|refine zBy ?_|refine zEz ?_|refine zEy ?_|refine zAv ?_|refine zBz ?_)
  | refine zDy ?_|refine zEw rfl ?_|refine zJy ?_|refine zJx ?_
  | ((first|refine zGv rfl rfl rfl rfl rfl fun K_ hK_=>?_|refine zGw rfl rfl rfl rfl rfl fun K_ hK_=>?_);simp only [zAz,zDx,zGx,↓reduceIte,reduceCtorEq,Nat.reduceEqDiff,Bool.not_true,Bool.not_false];refine hK_ _ ?_;clear hK_ K_)
  | refine zDv (by decide) ?_
  | ((try first|refine zKy rfl rfl rfl ?_|refine zJz rfl rfl ?_|refine zKx rfl rfl rfl ?_|refine zIw rfl rfl ?_);(refine zIv fun Q_ hQ_=>?_;simp (disch:=first|omega|(simp only [List.length_cons,List.length_nil,List.length_append];omega)) only [bb,bp,zLz,↓reduceIte,reduceCtorEq,Nat.reduceEqDiff,Nat.reduceLT,Nat.reduceLeDiff,Nat.reduceAdd,Nat.reduceMul,Nat.reduceSub,Nat.reduceBEq,Int.reduceToNat,cond_true,cond_false,eq_self,beq_self_eq_true,g1,g2,g4,g5,g6,g7,g8,zFw wf,zGy wf,zBw wf,zFx wf,zAy wf,zAx,tEvD29,zIx,zIy,zIz,zHv,zFv,zAw wf];first|(refine zCw (Q:=Q_) (fun hp_=>?_) (fun hp_=>?_) <;> first|(exfalso;omega)|(refine hQ_ _ _ ?_;clear hQ_ Q_))|(refine zBx (Q:=Q_) (fun hp_=>?_) (fun hp_=>?_) <;> first|(exfalso;omega)|(refine hQ_ _ _ ?_;clear hQ_ Q_))|(refine hQ_ _ _ ?_;clear hQ_ Q_)))
  | (refine zHx fun K_ hK_=>?_;simp (disch:=omega) only [zGz,zAz,zHw,↓reduceIte,reduceCtorEq,Nat.reduceEqDiff,Nat.reduceLT];refine hK_ _ ?_;clear hK_ K_)))
              refine zLx (List.replicate 23 .no++[.full]) (by kernel_rfl) ?_
              (repeat' (first
  | (with_reducible first|refine zJw ?_|refine zHz ?_|refine zFz ?_|refine zEv ?_|refine zFy ?_|refine zJv ?_|refine zHy ?_|refine zCz ?_|refine zDw ?_|refine zCy ?_|refine zCv ?_|refine zEx ?_|refine zDz ?_|refine zCx ?_|refine zBy ?_|refine zEz ?_|refine zEy ?_|refine zAv ?_|refine zBz ?_)
  | refine zDy ?_|refine zEw rfl ?_|refine zJy ?_|refine zJx ?_
  | ((first|refine zGv rfl rfl rfl rfl rfl fun K_ hK_=>?_|refine zGw rfl rfl rfl rfl rfl fun K_ hK_=>?_);simp only [zAz,zDx,zGx,↓reduceIte,reduceCtorEq,Nat.reduceEqDiff,Bool.not_true,Bool.not_false];refine hK_ _ ?_;clear hK_ K_)
  | refine zDv (by decide) ?_
  | ((try first|refine zKy rfl rfl rfl ?_|refine zJz rfl rfl ?_|refine zKx rfl rfl rfl ?_|refine zIw rfl rfl ?_);(refine zIv fun Q_ hQ_=>?_;simp (disch:=first|omega|(simp only [List.length_cons,List.length_nil,List.length_append];omega)) only [bb,bp,zLz,↓reduceIte,reduceCtorEq,Nat.reduceEqDiff,Nat.reduceLT,Nat.reduceLeDiff,Nat.reduceAdd,Nat.reduceMul,Nat.reduceSub,Nat.reduceBEq,Int.reduceToNat,cond_true,cond_false,eq_self,beq_self_eq_true,g1,g2,g4,g5,g6,g7,g8,e0,e1,e2,e3,e4,zFw wf,zGy wf,zBw wf,zFx wf,zAy wf,zAx,tEvD29,zIx,zIy,zIz,zHv,zFv,zAw wf];first|(refine zCw (Q:=Q_) (fun hp_=>?_) (fun hp_=>?_) <;> first|(exfalso;omega)|(refine hQ_ _ _ ?_;clear hQ_ Q_))|(refine zBx (Q:=Q_) (fun hp_=>?_) (fun hp_=>?_) <;> first|(exfalso;omega)|(refine hQ_ _ _ ?_;clear hQ_ Q_))|(refine hQ_ _ _ ?_;clear hQ_ Q_)))
  | (refine zHx fun K_ hK_=>?_;simp (disch:=omega) only [zGz,zAz,zHw,↓reduceIte,reduceCtorEq,Nat.reduceEqDiff,Nat.reduceLT];refine hK_ _ ?_;clear hK_ K_)))
              refine zLx [.no,.no,.no,.no,.no,.no,.full,.full,.full,.full,.full,.full] (by kernel_rfl) ?_
              (repeat' (first
  | (with_reducible first|refine zJw ?_|refine zHz ?_|refine zFz ?_|refine zEv ?_|refine zFy ?_|refine zJv ?_|refine zHy ?_|refine zCz ?_|refine zDw ?_|refine zCy ?_|refine zCv ?_|refine zEx ?_|refine zDz ?_|refine zCx ?_|refine zBy ?_|refine zEz ?_|refine zEy ?_|refine zAv ?_|refine zBz ?_)
  | refine zDy ?_|refine zEw rfl ?_|refine zJy ?_|refine zJx ?_
  | ((first|refine zGv rfl rfl rfl rfl rfl fun K_ hK_=>?_|refine zGw rfl rfl rfl rfl rfl fun K_ hK_=>?_);simp only [zAz,zDx,zGx,↓reduceIte,reduceCtorEq,Nat.reduceEqDiff,Bool.not_true,Bool.not_false];refine hK_ _ ?_;clear hK_ K_)
  | refine zDv (by decide) ?_
  | ((try first|refine zKy rfl rfl rfl ?_|refine zJz rfl rfl ?_|refine zKx rfl rfl rfl ?_|refine zIw rfl rfl ?_);(refine zIv fun Q_ hQ_=>?_;simp (disch:=first|omega|(simp only [List.length_cons,List.length_nil,List.length_append];omega)) only [bb,bp,zLz,↓reduceIte,reduceCtorEq,Nat.reduceEqDiff,Nat.reduceLT,Nat.reduceLeDiff,Nat.reduceAdd,Nat.reduceMul,Nat.reduceSub,Nat.reduceBEq,Int.reduceToNat,cond_true,cond_false,eq_self,beq_self_eq_true,g1,g2,g4,g5,g6,g7,g8,rs,hix,hld,fa,fb,fa',fb',zFw wf,zGy wf,zBw wf,zFx wf,zAy wf,zAx,tEvD29,zIx,zIy,zIz,zHv,zFv,zAw wf];first|(refine zCw (Q:=Q_) (fun hp_=>?_) (fun hp_=>?_) <;> first|(exfalso;omega)|(refine hQ_ _ _ ?_;clear hQ_ Q_))|(refine zBx (Q:=Q_) (fun hp_=>?_) (fun hp_=>?_) <;> first|(exfalso;omega)|(refine hQ_ _ _ ?_;clear hQ_ Q_))|(refine hQ_ _ _ ?_;clear hQ_ Q_)))
  | (refine zHx fun K_ hK_=>?_;simp (disch:=omega) only [zGz,zAz,zHw,↓reduceIte,reduceCtorEq,Nat.reduceEqDiff,Nat.reduceLT];refine hK_ _ ?_;clear hK_ K_)))
              (repeat' (first
  | (with_reducible first|refine zJw ?_|refine zHz ?_|refine zFz ?_|refine zEv ?_|refine zFy ?_|refine zJv ?_|refine zHy ?_|refine zCz ?_|refine zDw ?_|refine zCy ?_|refine zCv ?_|refine zEx ?_|refine zDz ?_|refine zCx ?_|refine zBy ?_|refine zEz ?_|refine zEy ?_|refine zAv ?_|refine zBz ?_)
  | refine zDy ?_|refine zEw rfl ?_|refine zJy ?_|refine zJx ?_
  | ((first|refine zGv rfl rfl rfl rfl rfl fun K_ hK_=>?_|refine zGw rfl rfl rfl rfl rfl fun K_ hK_=>?_);simp only [zAz,zDx,zGx,↓reduceIte,reduceCtorEq,Nat.reduceEqDiff,Bool.not_true,Bool.not_false];refine hK_ _ ?_;clear hK_ K_)
  | refine zDv (by decide) ?_
  | ((try first|refine zKy rfl rfl rfl ?_|refine zJz rfl rfl ?_|refine zKx rfl rfl rfl ?_|refine zIw rfl rfl ?_);(refine zIv fun Q_ hQ_=>?_;simp (disch:=first|omega|(simp only [List.length_cons,List.length_nil,List.length_append];omega)) only [bb,bp,zLz,↓reduceIte,reduceCtorEq,Nat.reduceEqDiff,Nat.reduceLT,Nat.reduceLeDiff,Nat.reduceAdd,Nat.reduceMul,Nat.reduceSub,Nat.reduceBEq,Int.reduceToNat,cond_true,cond_false,eq_self,beq_self_eq_true,g1,g2,g4,g5,g6,g7,g8,bi_min,bi_max,zFw wf,zGy wf,zBw wf,zFx wf,zAy wf,zAx,tEvD29,zIx,zIy,zIz,zHv,zFv,zAw wf];first|(refine zCw (Q:=Q_) (fun hp_=>?_) (fun hp_=>?_) <;> first|(exfalso;omega)|(refine hQ_ _ _ ?_;clear hQ_ Q_))|(refine zBx (Q:=Q_) (fun hp_=>?_) (fun hp_=>?_) <;> first|(exfalso;omega)|(refine hQ_ _ _ ?_;clear hQ_ Q_))|(refine hQ_ _ _ ?_;clear hQ_ Q_)))
  | (refine zHx fun K_ hK_=>?_;simp (disch:=omega) only [zGz,zAz,zHw,↓reduceIte,reduceCtorEq,Nat.reduceEqDiff,Nat.reduceLT];refine hK_ _ ?_;clear hK_ K_)))
              refine zLw (b+1) (by omega) ⟨by omega,by simp only [zAz,↓reduceIte,reduceCtorEq,Nat.reduceEqDiff];exact g1,by simp only [zAz,↓reduceIte,reduceCtorEq,Nat.reduceEqDiff];exact g2,by simp only [zAz,↓reduceIte,reduceCtorEq,Nat.reduceEqDiff];exact g4,by simp only [zAz,↓reduceIte,reduceCtorEq,Nat.reduceEqDiff];exact g5,by simp only [zAz,↓reduceIte,reduceCtorEq,Nat.reduceEqDiff];exact g6,by simp only [zAz,↓reduceIte,reduceCtorEq,Nat.reduceEqDiff];exact g7,by simp only [zAz,↓reduceIte,reduceCtorEq,Nat.reduceEqDiff];rfl,rfl,_,_,_,rfl,by omega,by omega,hseen.bit hlt C h21 h10⟩
            · have hbe:b=32:=by omega
              subst hbe
              have hs2:Seen T ls mn mx i (T.o0+(n:Int)) true true:=hseen
              (repeat' (first
  | (with_reducible first|refine zJw ?_|refine zHz ?_|refine zFz ?_|refine zEv ?_|refine zFy ?_|refine zJv ?_|refine zHy ?_|refine zCz ?_|refine zDw ?_|refine zCy ?_|refine zCv ?_|refine zEx ?_|refine zDz ?_|refine zCx ?_|refine zBy ?_|refine zEz ?_|refine zEy ?_|refine zAv ?_|refine zBz ?_)
  | refine zDy ?_|refine zEw rfl ?_|refine zJy ?_|refine zJx ?_
  | ((first|refine zGv rfl rfl rfl rfl rfl fun K_ hK_=>?_|refine zGw rfl rfl rfl rfl rfl fun K_ hK_=>?_);simp only [zAz,zDx,zGx,↓reduceIte,reduceCtorEq,Nat.reduceEqDiff,Bool.not_true,Bool.not_false];refine hK_ _ ?_;clear hK_ K_)
  | refine zDv (by decide) ?_
  | ((try first|refine zKy rfl rfl rfl ?_|refine zJz rfl rfl ?_|refine zKx rfl rfl rfl ?_|refine zIw rfl rfl ?_);(refine zIv fun Q_ hQ_=>?_;simp (disch:=first|omega|(simp only [List.length_cons,List.length_nil,List.length_append];omega)) only [bb,bp,zLz,↓reduceIte,reduceCtorEq,Nat.reduceEqDiff,Nat.reduceLT,Nat.reduceLeDiff,Nat.reduceAdd,Nat.reduceMul,Nat.reduceSub,Nat.reduceBEq,Int.reduceToNat,cond_true,cond_false,eq_self,beq_self_eq_true,g1,g2,g4,g5,g6,g7,g8,zFw wf,zGy wf,zBw wf,zFx wf,zAy wf,zAx,tEvD29,zIx,zIy,zIz,zHv,zFv,zAw wf];first|(refine zCw (Q:=Q_) (fun hp_=>?_) (fun hp_=>?_) <;> first|(exfalso;omega)|(refine hQ_ _ _ ?_;clear hQ_ Q_))|(refine zBx (Q:=Q_) (fun hp_=>?_) (fun hp_=>?_) <;> first|(exfalso;omega)|(refine hQ_ _ _ ?_;clear hQ_ Q_))|(refine hQ_ _ _ ?_;clear hQ_ Q_)))
  | (refine zHx fun K_ hK_=>?_;simp (disch:=omega) only [zGz,zAz,zHw,↓reduceIte,reduceCtorEq,Nat.reduceEqDiff,Nat.reduceLT];refine hK_ _ ?_;clear hK_ K_)))
              refine zLw (n+1) (by omega) ⟨by omega,by simp only [zAz,↓reduceIte,reduceCtorEq,Nat.reduceEqDiff];exact g1,by simp only [zAz,↓reduceIte,reduceCtorEq,Nat.reduceEqDiff];exact g2,by simp only [zAz,↓reduceIte,reduceCtorEq,Nat.reduceEqDiff];exact g4,by simp only [zAz,↓reduceIte,reduceCtorEq,Nat.reduceEqDiff];exact g5,by simp only [zAz,↓reduceIte,reduceCtorEq,Nat.reduceEqDiff];exact g6,by simp only [zAz,↓reduceIte,reduceCtorEq,Nat.reduceEqDiff];rw [Int.natCast_add,← Int.add_assoc];rfl,rfl,mn,mx,_,rfl,hmn,hmx,?_⟩
              rw [Int.natCast_add,← Int.add_assoc]
              exact hs2.form
          · exact ⟨by omega,by simp only [zAz,↓reduceIte,reduceCtorEq,Nat.reduceEqDiff];exact g1,by simp only [zAz,↓reduceIte,reduceCtorEq,Nat.reduceEqDiff];exact g2,by simp only [zAz,↓reduceIte,reduceCtorEq,Nat.reduceEqDiff];exact g4,by simp only [zAz,↓reduceIte,reduceCtorEq,Nat.reduceEqDiff];exact g5,by simp only [zAz,↓reduceIte,reduceCtorEq,Nat.reduceEqDiff];exact g6,by simp only [zAz,↓reduceIte,reduceCtorEq,Nat.reduceEqDiff];exact g7,by first|(simp only [zAz,↓reduceIte,reduceCtorEq,Nat.reduceEqDiff];done)|(simp only [zAz,↓reduceIte,reduceCtorEq,Nat.reduceEqDiff];rfl),rfl,mn,mx,G,rfl,hmn,hmx,hseen⟩
        · (repeat' (first
  | (with_reducible first|refine zJw ?_|refine zHz ?_|refine zFz ?_|refine zEv ?_|refine zFy ?_|refine zJv ?_|refine zHy ?_|refine zCz ?_|refine zDw ?_|refine zCy ?_|refine zCv ?_|refine zEx ?_|refine zDz ?_|refine zCx ?_|refine zBy ?_|refine zEz ?_|refine zEy ?_|refine zAv ?_|refine zBz ?_)
  | refine zDy ?_|refine zEw rfl ?_|refine zJy ?_|refine zJx ?_
  | ((first|refine zGv rfl rfl rfl rfl rfl fun K_ hK_=>?_|refine zGw rfl rfl rfl rfl rfl fun K_ hK_=>?_);simp only [zAz,zDx,zGx,↓reduceIte,reduceCtorEq,Nat.reduceEqDiff,Bool.not_true,Bool.not_false];refine hK_ _ ?_;clear hK_ K_)
  | refine zDv (by decide) ?_
  | ((try first|refine zKy rfl rfl rfl ?_|refine zJz rfl rfl ?_|refine zKx rfl rfl rfl ?_|refine zIw rfl rfl ?_);(refine zIv fun Q_ hQ_=>?_;simp (disch:=first|omega|(simp only [List.length_cons,List.length_nil,List.length_append];omega)) only [bb,bp,zLz,↓reduceIte,reduceCtorEq,Nat.reduceEqDiff,Nat.reduceLT,Nat.reduceLeDiff,Nat.reduceAdd,Nat.reduceMul,Nat.reduceSub,Nat.reduceBEq,Int.reduceToNat,cond_true,cond_false,eq_self,beq_self_eq_true,g1,g2,g4,g5,g6,g7,zFw wf,zGy wf,zBw wf,zFx wf,zAy wf,zAx,tEvD29,zIx,zIy,zIz,zHv,zFv,zAw wf];first|(refine zCw (Q:=Q_) (fun hp_=>?_) (fun hp_=>?_) <;> first|(exfalso;omega)|(refine hQ_ _ _ ?_;clear hQ_ Q_))|(refine zBx (Q:=Q_) (fun hp_=>?_) (fun hp_=>?_) <;> first|(exfalso;omega)|(refine hQ_ _ _ ?_;clear hQ_ Q_))|(refine hQ_ _ _ ?_;clear hQ_ Q_)))
  | (refine zHx fun K_ hK_=>?_;simp (disch:=omega) only [zGz,zAz,zHw,↓reduceIte,reduceCtorEq,Nat.reduceEqDiff,Nat.reduceLT];refine hK_ _ ?_;clear hK_ K_)))
          refine zLw (i+1) (by omega) ⟨hlt,by simp only [zAz,↓reduceIte,reduceCtorEq,Nat.reduceEqDiff];exact g1,by simp only [zAz,↓reduceIte,reduceCtorEq,Nat.reduceEqDiff];exact g2,by simp only [zAz,↓reduceIte,reduceCtorEq,Nat.reduceEqDiff];exact g4,by simp only [zAz,↓reduceIte,reduceCtorEq,Nat.reduceEqDiff];exact g5,by simp only [zAz,↓reduceIte,reduceCtorEq,Nat.reduceEqDiff];rfl,rfl,mn,mx,_,rfl,hmn,hmx,hseen.line (by omega)⟩
      · exact ⟨by omega,by simp only [zAz,↓reduceIte,reduceCtorEq,Nat.reduceEqDiff];exact g1,by simp only [zAz,↓reduceIte,reduceCtorEq,Nat.reduceEqDiff];exact g2,by simp only [zAz,↓reduceIte,reduceCtorEq,Nat.reduceEqDiff];exact g4,by simp only [zAz,↓reduceIte,reduceCtorEq,Nat.reduceEqDiff];exact g5,by simp only [zAz,↓reduceIte,reduceCtorEq,Nat.reduceEqDiff];exact g6,by simp only [zAz,↓reduceIte,reduceCtorEq,Nat.reduceEqDiff];simp,rfl,mn,mx,G,rfl,hmn,hmx,by simpa using hseen⟩
    · have hie:i=ls.length:=by omega
      rw [hie] at hseen
      obtain ⟨d1,d2⟩:=hseen.done k hk
      have e1:mn=spanV T ls false:=by omega
      have e2:mx=spanV T ls true:=by omega
      subst e1
      subst e2
      (repeat' (first
  | (with_reducible first|refine zJw ?_|refine zHz ?_|refine zFz ?_|refine zEv ?_|refine zFy ?_|refine zJv ?_|refine zHy ?_|refine zCz ?_|refine zDw ?_|refine zCy ?_|refine zCv ?_|refine zEx ?_|refine zDz ?_|refine zCx ?_|refine zBy ?_|refine zEz ?_|refine zEy ?_|refine zAv ?_|refine zBz ?_)
  | refine zDy ?_|refine zEw rfl ?_|refine zJy ?_|refine zJx ?_
  | ((first|refine zGv rfl rfl rfl rfl rfl fun K_ hK_=>?_|refine zGw rfl rfl rfl rfl rfl fun K_ hK_=>?_);simp only [zAz,zDx,zGx,↓reduceIte,reduceCtorEq,Nat.reduceEqDiff,Bool.not_true,Bool.not_false];refine hK_ _ ?_;clear hK_ K_)
  | refine zDv (by decide) ?_
  | ((try first|refine zKy rfl rfl rfl ?_|refine zJz rfl rfl ?_|refine zKx rfl rfl rfl ?_|refine zIw rfl rfl ?_);(refine zIv fun Q_ hQ_=>?_;simp (disch:=first|omega|(simp only [List.length_cons,List.length_nil,List.length_append];omega)) only [bb,bp,zLz,↓reduceIte,reduceCtorEq,Nat.reduceEqDiff,Nat.reduceLT,Nat.reduceLeDiff,Nat.reduceAdd,Nat.reduceMul,Nat.reduceSub,Nat.reduceBEq,Int.reduceToNat,cond_true,cond_false,eq_self,beq_self_eq_true,g1,g2,g4,g5,g6,hl,zFw wf,zGy wf,zBw wf,zFx wf,zAy wf,zAx,tEvD29,zIx,zIy,zIz,zHv,zFv,zAw wf];first|(refine zCw (Q:=Q_) (fun hp_=>?_) (fun hp_=>?_) <;> first|(exfalso;omega)|(refine hQ_ _ _ ?_;clear hQ_ Q_))|(refine zBx (Q:=Q_) (fun hp_=>?_) (fun hp_=>?_) <;> first|(exfalso;omega)|(refine hQ_ _ _ ?_;clear hQ_ Q_))|(refine hQ_ _ _ ?_;clear hQ_ Q_)))
  | (refine zHx fun K_ hK_=>?_;simp (disch:=omega) only [zGz,zAz,zHw,↓reduceIte,reduceCtorEq,Nat.reduceEqDiff,Nat.reduceLT];refine hK_ _ ?_;clear hK_ K_)))
      refine zKz _ _ rfl (retc0 (by decide) (by simp (disch:=first|omega|(simp only [List.length_cons,List.length_nil,List.length_append];omega)) only [bb,bp,zLz,↓reduceIte,reduceCtorEq,Nat.reduceEqDiff,Nat.reduceLT,Nat.reduceLeDiff,Nat.reduceAdd,Nat.reduceMul,Nat.reduceSub,Nat.reduceBEq,Int.reduceToNat,cond_true,cond_false,eq_self,beq_self_eq_true,g4,zBw wf,tEvD29,zIx,zIy,zIz,zHv,zFv,zAw wf];rfl)) ?_
      refine zKw rfl (by omega) ?_
      exact ⟨rfl,rfl⟩
  · exact ⟨Nat.zero_le _,by simp only [zAz,↓reduceIte,reduceCtorEq,Nat.reduceEqDiff],by simp only [zAz,↓reduceIte,reduceCtorEq,Nat.reduceEqDiff],by simp only [zAz,↓reduceIte,reduceCtorEq,Nat.reduceEqDiff],by simp only [zAz,↓reduceIte,reduceCtorEq,Nat.reduceEqDiff],by first|(simp only [zAz,↓reduceIte,reduceCtorEq,Nat.reduceEqDiff];done)|(simp only [zAz,↓reduceIte,reduceCtorEq,Nat.reduceEqDiff];rfl),rfl,_,_,[],rfl,by omega,by omega,Seen.init _ _ _ _⟩
end Go.Proofs.Ythaleckfgcgegaa
end

section
namespace Go.Proofs.Ythaleckfgcgegaa
open Go.Ev
set_option maxRecDepth 100000
set_option linter.unusedSimpArgs false
set_option linter.unusedVariables false
set_option maxHeartbeats 2000000
theorem tEvD27 :type_of% (And.intro (And.intro (And.intro (And.intro (And.intro (And.intro (And.intro (@yYz) (@yXv)) (And.intro (@yXw) (And.intro (@yXx) (@yXy)))) (And.intro (And.intro (@yXz) (And.intro (@yWv) (@yWw))) (And.intro (@zWz) (And.intro (@ia_2) (@sz_2))))) (And.intro (And.intro (And.intro (@ia_3) (@sz_3)) (And.intro (@ia_4) (And.intro (@sz_4) (@yWx)))) (And.intro (And.intro (@yFw) (And.intro (@yWy) (@yFx))) (And.intro (@yWz) (And.intro (@yFy) (@yVv)))))) (And.intro (And.intro (And.intro (And.intro (@yFz) (@yVw)) (And.intro (@yEv) (And.intro (@yVx) (@yEw)))) (And.intro (And.intro (@yVy) (And.intro (@yEx) (@yVz))) (And.intro (@yEy) (And.intro (@yUv) (@yEz))))) (And.intro (And.intro (And.intro (@yUw) (And.intro (@yDv) (@yUx))) (And.intro (@zYx) (And.intro (@yUy) (@yDw)))) (And.intro (And.intro (@yUz) (And.intro (@yDx) (@yTv))) (And.intro (@yDy) (And.intro (@yTw) (@yDz))))))) (And.intro (And.intro (And.intro (And.intro (And.intro (@yTx) (@yCv)) (And.intro (@yTy) (And.intro (@yCw) (@yTz)))) (And.intro (And.intro (@yCx) (And.intro (@ySv) (@yCy))) (And.intro (@ySw) (And.intro (@yCz) (@ySx))))) (And.intro (And.intro (And.intro (@yBv) (@zVv)) (And.intro (@zUx) (And.intro (@zVw) (@zUy)))) (And.intro (And.intro (@zVx) (And.intro (@zUz) (@zVy))) (And.intro (@zTv) (And.intro (@zVz) (@zTw)))))) (And.intro (And.intro (And.intro (And.intro (@zUv) (@zTx)) (And.intro (@zUw) (And.intro (@zTy) (@ze_2)))) (And.intro (And.intro (@ze_3) (And.intro (@ze_4) (@yBw))) (And.intro (@yBx) (And.intro (@yBy) (@yBz))))) (And.intro (And.intro (And.intro (@yAv) (And.intro (@yAw) (@xOw))) (And.intro (@yAx) (And.intro (@yAy) (@yAz)))) (And.intro (And.intro (@zTz) (And.intro (@zSy) (@zSz))) (And.intro (@zRv) (And.intro (@zRw) (@zRx)))))))) (And.intro (And.intro (And.intro (And.intro (And.intro (And.intro (@zRy) (@zRz)) (And.intro (@zQv) (And.intro (@zQw) (@zQx)))) (And.intro (And.intro (@zQy) (And.intro (@zQz) (@zPv))) (And.intro (@zPw) (And.intro (@zPx) (@zPy))))) (And.intro (And.intro (And.intro (@zPz) (@zOv)) (And.intro (@zOw) (And.intro (@zOx) (@zOy)))) (And.intro (And.intro (@zOz) (And.intro (@zNv) (@zNw))) (And.intro (@zNx) (And.intro (@zNy) (@zNz)))))) (And.intro (And.intro (And.intro (And.intro (@zMv) (@ySy)) (And.intro (@ySz) (And.intro (@yRv) (@yRw)))) (And.intro (And.intro (@yRx) (And.intro (@yRy) (@yRz))) (And.intro (@yQv) (And.intro (@yQw) (@yQx))))) (And.intro (And.intro (And.intro (@yQy) (And.intro (@yQz) (@yPv))) (And.intro (@yPw) (And.intro (@yPx) (@yPy)))) (And.intro (And.intro (@yPz) (And.intro (@yOv) (@yOw))) (And.intro (@yOx) (And.intro (@yOy) (@yOz))))))) (And.intro (And.intro (And.intro (And.intro (And.intro (@yNv) (@yNw)) (And.intro (@yNx) (And.intro (@yNy) (@yNz)))) (And.intro (And.intro (@yMv) (And.intro (@yMw) (@yMx))) (And.intro (@yMy) (And.intro (@yMz) (@yLv))))) (And.intro (And.intro (And.intro (@yLw) (@yLx)) (And.intro (@yLy) (And.intro (@yLz) (@yKv)))) (And.intro (And.intro (@yKw) (And.intro (@yKx) (@yKy))) (And.intro (@yKz) (And.intro (@yJv) (@yJw)))))) (And.intro (And.intro (And.intro (And.intro (@yJx) (@yJy)) (And.intro (@yJz) (And.intro (@yIv) (@yIw)))) (And.intro (And.intro (@yIx) (And.intro (@zZw) (@zZx))) (And.intro (@yIy) (And.intro (@yIz) (@yHv))))) (And.intro (And.intro (And.intro (@yHw) (And.intro (@yHx) (@yHy))) (And.intro (@yHz) (And.intro (@yGv) (@yGw)))) (And.intro (And.intro (@yGx) (And.intro (@yGy) (@zZy))) (And.intro (@yGz) (And.intro (@yFv) (@zZz))))))))):=And.intro (And.intro (And.intro (And.intro (And.intro (And.intro (And.intro (@yYz) (@yXv)) (And.intro (@yXw) (And.intro (@yXx) (@yXy)))) (And.intro (And.intro (@yXz) (And.intro (@yWv) (@yWw))) (And.intro (@zWz) (And.intro (@ia_2) (@sz_2))))) (And.intro (And.intro (And.intro (@ia_3) (@sz_3)) (And.intro (@ia_4) (And.intro (@sz_4) (@yWx)))) (And.intro (And.intro (@yFw) (And.intro (@yWy) (@yFx))) (And.intro (@yWz) (And.intro (@yFy) (@yVv)))))) (And.intro (And.intro (And.intro (And.intro (@yFz) (@yVw)) (And.intro (@yEv) (And.intro (@yVx) (@yEw)))) (And.intro (And.intro (@yVy) (And.intro (@yEx) (@yVz))) (And.intro (@yEy) (And.intro (@yUv) (@yEz))))) (And.intro (And.intro (And.intro (@yUw) (And.intro (@yDv) (@yUx))) (And.intro (@zYx) (And.intro (@yUy) (@yDw)))) (And.intro (And.intro (@yUz) (And.intro (@yDx) (@yTv))) (And.intro (@yDy) (And.intro (@yTw) (@yDz))))))) (And.intro (And.intro (And.intro (And.intro (And.intro (@yTx) (@yCv)) (And.intro (@yTy) (And.intro (@yCw) (@yTz)))) (And.intro (And.intro (@yCx) (And.intro (@ySv) (@yCy))) (And.intro (@ySw) (And.intro (@yCz) (@ySx))))) (And.intro (And.intro (And.intro (@yBv) (@zVv)) (And.intro (@zUx) (And.intro (@zVw) (@zUy)))) (And.intro (And.intro (@zVx) (And.intro (@zUz) (@zVy))) (And.intro (@zTv) (And.intro (@zVz) (@zTw)))))) (And.intro (And.intro (And.intro (And.intro (@zUv) (@zTx)) (And.intro (@zUw) (And.intro (@zTy) (@ze_2)))) (And.intro (And.intro (@ze_3) (And.intro (@ze_4) (@yBw))) (And.intro (@yBx) (And.intro (@yBy) (@yBz))))) (And.intro (And.intro (And.intro (@yAv) (And.intro (@yAw) (@xOw))) (And.intro (@yAx) (And.intro (@yAy) (@yAz)))) (And.intro (And.intro (@zTz) (And.intro (@zSy) (@zSz))) (And.intro (@zRv) (And.intro (@zRw) (@zRx)))))))) (And.intro (And.intro (And.intro (And.intro (And.intro (And.intro (@zRy) (@zRz)) (And.intro (@zQv) (And.intro (@zQw) (@zQx)))) (And.intro (And.intro (@zQy) (And.intro (@zQz) (@zPv))) (And.intro (@zPw) (And.intro (@zPx) (@zPy))))) (And.intro (And.intro (And.intro (@zPz) (@zOv)) (And.intro (@zOw) (And.intro (@zOx) (@zOy)))) (And.intro (And.intro (@zOz) (And.intro (@zNv) (@zNw))) (And.intro (@zNx) (And.intro (@zNy) (@zNz)))))) (And.intro (And.intro (And.intro (And.intro (@zMv) (@ySy)) (And.intro (@ySz) (And.intro (@yRv) (@yRw)))) (And.intro (And.intro (@yRx) (And.intro (@yRy) (@yRz))) (And.intro (@yQv) (And.intro (@yQw) (@yQx))))) (And.intro (And.intro (And.intro (@yQy) (And.intro (@yQz) (@yPv))) (And.intro (@yPw) (And.intro (@yPx) (@yPy)))) (And.intro (And.intro (@yPz) (And.intro (@yOv) (@yOw))) (And.intro (@yOx) (And.intro (@yOy) (@yOz))))))) (And.intro (And.intro (And.intro (And.intro (And.intro (@yNv) (@yNw)) (And.intro (@yNx) (And.intro (@yNy) (@yNz)))) (And.intro (And.intro (@yMv) (And.intro (@yMw) (@yMx))) (And.intro (@yMy) (And.intro (@yMz) (@yLv))))) (And.intro (And.intro (And.intro (@yLw) (@yLx)) (And.intro (@yLy) (And.intro (@yLz) (@yKv)))) (And.intro (And.intro (@yKw) (And.intro (@yKx) (@yKy))) (And.intro (@yKz) (And.intro (@yJv) (@yJw)))))) (And.intro (And.intro (And.intro (And.intro (@yJx) (@yJy)) (And.intro (@yJz) (And.intro (@yIv) (@yIw)))) (And.intro (And.intro (@yIx) (And.intro (@zZw) (@zZx))) (And.intro (@yIy) (And.intro (@yIz) (@yHv))))) (And.intro (And.intro (And.intro (@yHw) (And.intro (@yHx) (@yHy))) (And.intro (@yHz) (And.intro (@yGv) (@yGw)))) (And.intro (And.intro (@yGx) (And.intro (@yGy) (@zZy))) (And.intro (@yGz) (And.intro (@yFv) (@zZz))))))))
theorem yldB_exit_X {h:H} (wf:Wf h) {L:List AO} {w k:Nat} {o:AO} {Q:AV→H→Prop} {id:Nat} {st:LoopState} {pend:Ev.J} {g n:Nat} {tm:Ev.M AV} {params:Array Tmp} {assign body:Code} {dd:Pos} {f:TF} {d:List Pos}
    (hk:L[k]? = some o) (ho:o = .loop st pend g n tm params assign body dd)
    (q : ∀ o',o'=AO.loop .done (.exit id) g n tm params assign body dd→Q (.bool false) (X h (L.set k o') (min (h.clock+k) w))):yldB (nx h k) Q (.exit id) f d (X h L w):=
  ⟨st,pend,g,n,tm,params,assign,body,dd,_,by rw [zXy wf,hk,ho],yZz L w k _ (zSw hk),q _ rfl⟩
theorem fld0 (u v:Int):fieldE Try.prog 33 (.agg [ii u,ii v]) 0=some (ii u):=by kernel_rfl
theorem fld1 (u v:Int):fieldE Try.prog 33 (.agg [ii u,ii v]) 1=some (ii v):=by kernel_rfl
def doneE (o:AO):Prop:=∃ g' n' tm' ps' sg' bd' dd',o = .loop .done (.exit 0) g' n' tm' ps' sg' bd' dd'
theorem found (T:Te) (k:okT T) (lv:AV) (hcap:CapU 2 lv) (ls:List Ln) (hk:okLs ls) (hr:rk T ls) (high:Bool) (h:H) (x:LinesR h lv ls) :
    WV ((om Try.prog KK).call (.fn 59 [.agg [ii T.sp,ii T.lo,ii T.we,ii T.al,ii T.f0,ii T.f1,ii T.t0,ii T.t1,ii T.s0,ii T.s1,ii T.o0,ii T.o1,ii T.b0,ii T.b1,ii T.r0,ii T.r1,lv],.bool high]) h) fun v h'=>∃ i q,∃ hi:i<ls.length,q<cnt T∧cg T ls[i].re ls[i].cf high q=spanV T ls high∧v = .tup [ii (i:Int),.agg (trC (cand T high (T.o0+(q:Int))))]∧h'=h:=by
  have wf:=x.wf
  obtain ⟨f1,f2⟩:=x.flat
  have ko:=k.o
  have hn4:=hk.n
  have hcnt:(cnt T:Int)=T.o1 - T.o0+1:=by unfold cnt;omega
  have hl : ∀ h',lenE Try.prog 74 lv h'=some (ii (ls.length:Int)):=fun h'=>x.sl.len un_74
  have hs:=fun l w hw=>span T k lv hcap ls hk hr _ (x.up l w hw)
  have hex : ∃ i,∃ hi:i<ls.length,∃ q,q<cnt T∧cg T ls[i].re ls[i].cf high q=spanV T ls high:=by
    obtain ⟨i,hi,e⟩:=bst_att (high:=high) (g:=lineV T ls high) (show 0<ls.length by omega)
    rw [xQy hi] at e
    obtain ⟨q,hq,e2⟩:=bst_att (high:=high) (g:=cg T ls[i].re ls[i].cf high) (cnt_pos T)
    exact ⟨i,hi,q,hq,by rw [← e2];exact e.symm⟩
  refine zLv (fn:=Try.f59) Try.func59 rfl rfl rfl rfl rfl ?_
  simp only [zLz]
  cases high
  · (repeat' (first
  | (with_reducible first|refine zJw ?_|refine zHz ?_|refine zFz ?_|refine zEv ?_|refine zFy ?_|refine zJv ?_|refine zHy ?_|refine zCz ?_|refine zDw ?_|refine zCy ?_|refine zCv ?_|refine zEx ?_|refine zDz ?_|refine zCx ?_|refine zBy ?_|refine zEz ?_|refine zEy ?_|refine zAv ?_|refine zBz ?_)
  | refine zDy ?_|refine zEw rfl ?_|refine zJy ?_|refine zJx ?_
  | ((first|refine zGv rfl rfl rfl rfl rfl fun K_ hK_=>?_|refine zGw rfl rfl rfl rfl rfl fun K_ hK_=>?_);simp only [zAz,zDx,zGx,↓reduceIte,reduceCtorEq,Nat.reduceEqDiff,Bool.not_true,Bool.not_false];refine hK_ _ ?_;clear hK_ K_)
  | refine zDv (by decide) ?_
  | ((try first|refine zKy rfl rfl rfl ?_|refine zJz rfl rfl ?_|refine zKx rfl rfl rfl ?_|refine zIw rfl rfl ?_);(refine zIv fun Q_ hQ_=>?_;simp (disch:=first|omega|(simp only [List.length_cons,List.length_nil,List.length_append];omega)) only [bb,bp,zLz,↓reduceIte,reduceCtorEq,Nat.reduceEqDiff,Nat.reduceLT,Nat.reduceLeDiff,Nat.reduceAdd,Nat.reduceMul,Nat.reduceSub,Nat.reduceBEq,Int.reduceToNat,cond_true,cond_false,eq_self,beq_self_eq_true,f1,f2,hl,fld0,fld1,zFw wf,zGy wf,zBw wf,zFx wf,zAy wf,zAx,tEvD27,zIx,zIy,zIz,zHv,zFv,zAw wf];first|(refine zCw (Q:=Q_) (fun hp_=>?_) (fun hp_=>?_) <;> first|(exfalso;omega)|(refine hQ_ _ _ ?_;clear hQ_ Q_))|(refine zBx (Q:=Q_) (fun hp_=>?_) (fun hp_=>?_) <;> first|(exfalso;omega)|(refine hQ_ _ _ ?_;clear hQ_ Q_))|(refine hQ_ _ _ ?_;clear hQ_ Q_)|(refine zMz (hs _ _ (by first|omega|(simp only [List.length_append,List.length_cons,List.length_nil];omega))) ?_;refine hQ_ _ _ ?_;clear hQ_ Q_)))
  | (refine zHx fun K_ hK_=>?_;simp (disch:=omega) only [zGz,zAz,zHw,↓reduceIte,reduceCtorEq,Nat.reduceEqDiff,Nat.reduceLT];refine hK_ _ ?_;clear hK_ K_)))
    refine zZv (fun (i:Nat) f d h'=>i≤ls.length∧(∀ j (hj:j<ls.length),j<i → ∀ q,q<cnt T→cg T ls[j].re ls[j].cf false q≠spanV T ls false)∧f 1 = .bool false∧f 2 = .ptr (nx h 0) 0∧f 5 = .ptr (nx h 1) 0∧f 6 = .ptr (nx h 2) 0∧f 7 = .ptr (nx h 3) 0∧f 8 = .ptr (nx h 4) 0∧f 20=lv∧f 21=ii (ls.length:Int)∧f 22=ii (i:Int) ∧
      ∃ (ks:List Nat) (B:List AO) (w:Nat),d=ks.map (nx h)∧ks.Nodup∧(∀ k ∈ ks,B[k]? = some .dfr)∧B[0]? = some (.cells (zBv [ii T.sp,ii T.lo,ii T.we,ii T.al,ii T.f0,ii T.f1,ii T.t0,ii T.t1,ii T.s0,ii T.s1,ii T.o0,ii T.o1,ii T.b0,ii T.b1,ii T.r0,ii T.r1,lv]) 76)∧B[1]? = some (.cells (zBv [ii 0,ii 0,ii 0,ii 0,ii 0,ii 0]) 37)∧B[2]? = some (.cells (zBv [ii (spanV T ls false)]) 2)∧B[3]? = some (.cells (zBv [ii 0]) 3)∧B[4]? = some (.cells (zBv [ii 0,ii 0,ii 0,ii 0,ii 0,ii 0]) 37)∧h'=X h B w∧h.clock≤w∧w≤h.clock+B.length) (fun i=>ls.length - i) ?_ (ls.length+1) 0 (by omega) ?_
    · rintro i f d h' ⟨hi,hno,g1,g2,g5,g6,g7,g8,g20,g21,g22,ks,B,w,rfl,hnd,hks,hb0,hb1,hb2,hb3,hb4,rfl,hw1,hw2⟩
      by_cases hlt:i<ls.length
      · obtain ⟨id,off,hix,hld,hln⟩:=x.at ik_74 hlt
        obtain ⟨⟨fa,fa'⟩,⟨fb,fb'⟩⟩:=hln.flats
        have kl:=hk.ok _ (List.getElem_mem hlt)
        have hin:=hr _ (List.getElem_mem hlt)
        have get : ∀ {k:Nat} {o:AO},B[k]? = some o → ∀ J,(B++J)[k]? = some o:=fun {k o} hq J=>by rw [List.getElem?_append_left (zSw hq)];exact hq
        have b0:=get hb0
        have b1:=get hb1
        have b2:=get hb2
        have b3:=get hb3
        have b4:=get hb4
        have hB5:=zSw hb4
        have s3 : ∀ J o,(B++J).set 3 o=B.set 3 o++J:=fun J o=>List.set_append_left _ _ (by omega)
        have s4 : ∀ J o o',(B.set 3 o++J).set 4 o'=(B.set 3 o).set 4 o'++J:=fun J o o'=>List.set_append_left _ _ (by rw [List.length_set];omega)
        have b4' : ∀ J o,(B.set 3 o++J)[4]? = some (.cells (zBv [ii 0,ii 0,ii 0,ii 0,ii 0,ii 0]) 37):=fun J o=>by
          rw [List.getElem?_append_left (by rw [List.length_set];omega),List.getElem?_set_ne (by omega)];exact hb4
        (repeat' (first
  | (with_reducible first|refine zJw ?_|refine zHz ?_|refine zFz ?_|refine zEv ?_|refine zFy ?_|refine zJv ?_|refine zHy ?_|refine zCz ?_|refine zDw ?_|refine zCy ?_|refine zCv ?_|refine zEx ?_|refine zDz ?_|refine zCx ?_|refine zBy ?_|refine zEz ?_|refine zEy ?_|refine zAv ?_|refine zBz ?_)
  | refine zDy ?_|refine zEw rfl ?_|refine zJy ?_|refine zJx ?_
  | ((first|refine zGv rfl rfl rfl rfl rfl fun K_ hK_=>?_|refine zGw rfl rfl rfl rfl rfl fun K_ hK_=>?_);simp only [zAz,zDx,zGx,↓reduceIte,reduceCtorEq,Nat.reduceEqDiff,Bool.not_true,Bool.not_false];refine hK_ _ ?_;clear hK_ K_)
  | refine zDv (by decide) ?_
  | ((try first|refine zKy rfl rfl rfl ?_|refine zJz rfl rfl ?_|refine zKx rfl rfl rfl ?_|refine zIw rfl rfl ?_);(refine zIv fun Q_ hQ_=>?_;simp (disch:=first|omega|(simp only [List.length_cons,List.length_nil,List.length_append];omega)) only [bb,bp,zLz,↓reduceIte,reduceCtorEq,Nat.reduceEqDiff,Nat.reduceLT,Nat.reduceLeDiff,Nat.reduceAdd,Nat.reduceMul,Nat.reduceSub,Nat.reduceBEq,Int.reduceToNat,cond_true,cond_false,eq_self,beq_self_eq_true,g1,g2,g5,g6,g7,g8,g20,g21,g22,hix,hld,b0,f1,f2,fa,fb,fa',fb',zFw wf,zGy wf,zBw wf,zFx wf,zAy wf,zAx,tEvD27,zIx,zIy,zIz,zHv,zFv,zAw wf];first|(refine zCw (Q:=Q_) (fun hp_=>?_) (fun hp_=>?_) <;> first|(exfalso;omega)|(refine hQ_ _ _ ?_;clear hQ_ Q_))|(refine zBx (Q:=Q_) (fun hp_=>?_) (fun hp_=>?_) <;> first|(exfalso;omega)|(refine hQ_ _ _ ?_;clear hQ_ Q_))|(refine hQ_ _ _ ?_;clear hQ_ Q_)|(refine zMz (candidates T lv ⟨f1,f2⟩ false h wf _ _ (by first|omega|(simp only [List.length_append,List.length_cons,List.length_nil];omega))) ?_;refine hQ_ _ _ ?_;clear hQ_ Q_)))
  | (refine zHx fun K_ hK_=>?_;simp (disch:=omega) only [zGz,zAz,zHw,↓reduceIte,reduceCtorEq,Nat.reduceEqDiff,Nat.reduceLT];refine hK_ _ ?_;clear hK_ K_)))
        simp only [List.append_assoc,List.cons_append,List.nil_append,List.length_append,List.length_cons,List.length_nil,Nat.zero_add,Nat.reduceAdd,Nat.add_assoc]
        refine xRw wf rfl (zGz (by decide)) fun o ho=>?_
        simp only [zAz,↓reduceIte,reduceCtorEq,Nat.reduceEqDiff,List.append_assoc,List.cons_append,List.nil_append,List.length_append,List.length_cons,List.length_nil,Nat.zero_add,Nat.reduceAdd,Nat.add_assoc]
        refine WV.mono (cands T k lv false wf (B.length+2) (B.length+4) (nx h (B.length+6)) _ _ ?_ ?_ (fun q L=>∃ oo,L=B++[.cells (zBv [ii (i:Int)]) 3,.cells (zBv [ls[i].a,ls[i].b]) 67,.cells (zBv [ii T.sp,ii T.lo,ii T.we,ii T.al,ii T.f0,ii T.f1,ii T.t0,ii T.t1,ii T.s0,ii T.s1,ii T.o0,ii T.o1,ii T.b0,ii T.b1,ii T.r0,ii T.r1,lv]) 76,.cells (zBv [.bool false]) 4,.cells (zBv (trC (cand T false oo))) 37,.dfr,o] ∧ ∀ q',q'<q→cg T ls[i].re ls[i].cf false q'≠spanV T ls false)
          (fun L=>∃ oo q o2,q<cnt T∧cg T ls[i].re ls[i].cf false q=spanV T ls false∧doneE o2∧L=(B.set 3 (.cells (zBv [ii (i:Int)]) 3)).set 4 (.cells (zBv (trC (cand T false (T.o0+(q:Int))))) 37)++[.cells (zBv [ii (i:Int)]) 3,.cells (zBv [ls[i].a,ls[i].b]) 67,.cells (zBv [ii T.sp,ii T.lo,ii T.we,ii T.al,ii T.f0,ii T.f1,ii T.t0,ii T.t1,ii T.s0,ii T.s1,ii T.o0,ii T.o1,ii T.b0,ii T.b1,ii T.r0,ii T.r1,lv]) 76,.cells (zBv [.bool false]) 4,.cells (zBv (trC (cand T false oo))) 37,.dfr,o2]) ?_ ?_ ?_ ⟨0,rfl,fun q' h=>absurd h (Nat.not_lt_zero q')⟩) ?_
        · exact (by first|omega|(simp only [List.length_append,List.length_cons,List.length_nil];omega))
        · omega
        · rintro q L ⟨oo,rfl,_⟩
          exact ⟨by simp,by rw [zXx];rfl,oo,by rw [zXx];rfl⟩
        · rintro q L o' ⟨oo,rfl,hq⟩
          exact ⟨o',by rw [zWy];rfl,hq⟩
        · rintro q hq L J w' ⟨oo,rfl,hnq⟩ hw3 hw4
          have hw4':w'≤h.clock+(B.length+7+J.length):=by simpa using hw4
          have kx:=xDv k false (o:=T.o0+(q:Int)) ⟨by omega,by omega⟩
          have hxi:=xDw k hin kx
          have hgq:cg T ls[i].re ls[i].cf false q=coef T ls[i].re ls[i].cf (cand T false (T.o0+(q:Int))):=rfl
          have hcx:=fun l w hw=>coefficient T k lv ⟨f1,f2⟩ _ _ _ _ kl (cand T false (T.o0+(q:Int))) kx hxi.1 hxi.2 _ (hln.up l w hw)
          rw [← hgq] at hcx
          simp only [List.append_assoc,List.cons_append,List.nil_append]
          unfold trC
          generalize hxo:cand T false oo=xo at *
          generalize hxx:cand T false (T.o0+(q:Int))=x at *
          generalize hW:spanV T ls false=W at *
          generalize hG:cg T ls[i].re ls[i].cf false q=g at *
          refine WV_yldX wf (k:=B.length+6) (by rw [zXx];rfl) ho (setParams1 rfl) ?_
          (repeat' (first
  | (with_reducible first|refine zJw ?_|refine zHz ?_|refine zFz ?_|refine zEv ?_|refine zFy ?_|refine zJv ?_|refine zHy ?_|refine zCz ?_|refine zDw ?_|refine zCy ?_|refine zCv ?_|refine zEx ?_|refine zDz ?_|refine zCx ?_|refine zBy ?_|refine zEz ?_|refine zEy ?_|refine zAv ?_|refine zBz ?_)
  | refine zDy ?_|refine zEw rfl ?_|refine zJy ?_|refine zJx ?_
  | ((first|refine zGv rfl rfl rfl rfl rfl fun K_ hK_=>?_|refine zGw rfl rfl rfl rfl rfl fun K_ hK_=>?_);simp only [zAz,zDx,zGx,↓reduceIte,reduceCtorEq,Nat.reduceEqDiff,Bool.not_true,Bool.not_false];refine hK_ _ ?_;clear hK_ K_)
  | refine zDv (by decide) ?_
  | ((try first|refine zKy rfl rfl rfl ?_|refine zJz rfl rfl ?_|refine zKx rfl rfl rfl ?_|refine zIw rfl rfl ?_);(refine zIv fun Q_ hQ_=>?_;simp (disch:=first|omega|(simp only [List.length_cons,List.length_nil,List.length_append];omega)) only [bb,bp,zLz,↓reduceIte,reduceCtorEq,Nat.reduceEqDiff,Nat.reduceLT,Nat.reduceLeDiff,Nat.reduceAdd,Nat.reduceMul,Nat.reduceSub,Nat.reduceBEq,Int.reduceToNat,cond_true,cond_false,eq_self,beq_self_eq_true,zFw wf,zGy wf,zBw wf,zFx wf,zAy wf,zAx,tEvD27,zIx,zIy,zIz,zHv,zFv,zAw wf];first|(refine zCw (Q:=Q_) (fun hp_=>?_) (fun hp_=>?_) <;> first|(exfalso;omega)|(refine hQ_ _ _ ?_;clear hQ_ Q_))|(refine zBx (Q:=Q_) (fun hp_=>?_) (fun hp_=>?_) <;> first|(exfalso;omega)|(refine hQ_ _ _ ?_;clear hQ_ Q_))|(refine hQ_ _ _ ?_;clear hQ_ Q_)))
  | (refine zHx fun K_ hK_=>?_;simp (disch:=omega) only [zGz,zAz,zHw,↓reduceIte,reduceCtorEq,Nat.reduceEqDiff,Nat.reduceLT];refine hK_ _ ?_;clear hK_ K_)))
          refine yldA_X wf (k:=B.length+6) (by rw [zXx];rfl) ho fun o' ho'=>?_
          simp only [zWy,List.set_cons_succ,List.set_cons_zero]
          (repeat' (first
  | (with_reducible first|refine zJw ?_|refine zHz ?_|refine zFz ?_|refine zEv ?_|refine zFy ?_|refine zJv ?_|refine zHy ?_|refine zCz ?_|refine zDw ?_|refine zCy ?_|refine zCv ?_|refine zEx ?_|refine zDz ?_|refine zCx ?_|refine zBy ?_|refine zEz ?_|refine zEy ?_|refine zAv ?_|refine zBz ?_)
  | refine zDy ?_|refine zEw rfl ?_|refine zJy ?_|refine zJx ?_
  | ((first|refine zGv rfl rfl rfl rfl rfl fun K_ hK_=>?_|refine zGw rfl rfl rfl rfl rfl fun K_ hK_=>?_);simp only [zAz,zDx,zGx,↓reduceIte,reduceCtorEq,Nat.reduceEqDiff,Bool.not_true,Bool.not_false];refine hK_ _ ?_;clear hK_ K_)
  | refine zDv (by decide) ?_
  | ((try first|refine zKy rfl rfl rfl ?_|refine zJz rfl rfl ?_|refine zKx rfl rfl rfl ?_|refine zIw rfl rfl ?_);(refine zIv fun Q_ hQ_=>?_;simp (disch:=first|omega|(simp only [List.length_cons,List.length_nil,List.length_append];omega)) only [bb,bp,zLz,↓reduceIte,reduceCtorEq,Nat.reduceEqDiff,Nat.reduceLT,Nat.reduceLeDiff,Nat.reduceAdd,Nat.reduceMul,Nat.reduceSub,Nat.reduceBEq,Int.reduceToNat,cond_true,cond_false,eq_self,beq_self_eq_true,g2,g6,b0,b2,f1,f2,fa,fb,fa',fb',zFw wf,zGy wf,zBw wf,zFx wf,zAy wf,zAx,tEvD27,zIx,zIy,zIz,zHv,zFv,zAw wf];first|(refine zCw (Q:=Q_) (fun hp_=>?_) (fun hp_=>?_) <;> first|(exfalso;omega)|(refine hQ_ _ _ ?_;clear hQ_ Q_))|(refine zBx (Q:=Q_) (fun hp_=>?_) (fun hp_=>?_) <;> first|(exfalso;omega)|(refine hQ_ _ _ ?_;clear hQ_ Q_))|(refine hQ_ _ _ ?_;clear hQ_ Q_)))
  | (refine zHx fun K_ hK_=>?_;simp (disch:=omega) only [zGz,zAz,zHw,↓reduceIte,reduceCtorEq,Nat.reduceEqDiff,Nat.reduceLT];refine hK_ _ ?_;clear hK_ K_)))
          refine zLx [.no,.no,.no,.no,.no,.no,.full] (by kernel_rfl) ?_
          (repeat' (first
  | (with_reducible first|refine zJw ?_|refine zHz ?_|refine zFz ?_|refine zEv ?_|refine zFy ?_|refine zJv ?_|refine zHy ?_|refine zCz ?_|refine zDw ?_|refine zCy ?_|refine zCv ?_|refine zEx ?_|refine zDz ?_|refine zCx ?_|refine zBy ?_|refine zEz ?_|refine zEy ?_|refine zAv ?_|refine zBz ?_)
  | refine zDy ?_|refine zEw rfl ?_|refine zJy ?_|refine zJx ?_
  | ((first|refine zGv rfl rfl rfl rfl rfl fun K_ hK_=>?_|refine zGw rfl rfl rfl rfl rfl fun K_ hK_=>?_);simp only [zAz,zDx,zGx,↓reduceIte,reduceCtorEq,Nat.reduceEqDiff,Bool.not_true,Bool.not_false];refine hK_ _ ?_;clear hK_ K_)
  | refine zDv (by decide) ?_
  | ((try first|refine zKy rfl rfl rfl ?_|refine zJz rfl rfl ?_|refine zKx rfl rfl rfl ?_|refine zIw rfl rfl ?_);(refine zIv fun Q_ hQ_=>?_;simp (disch:=first|omega|(simp only [List.length_cons,List.length_nil,List.length_append];omega)) only [bb,bp,zLz,↓reduceIte,reduceCtorEq,Nat.reduceEqDiff,Nat.reduceLT,Nat.reduceLeDiff,Nat.reduceAdd,Nat.reduceMul,Nat.reduceSub,Nat.reduceBEq,Int.reduceToNat,cond_true,cond_false,eq_self,beq_self_eq_true,g2,g6,b0,b2,f1,f2,fa,fb,fa',fb',hcx,zFw wf,zGy wf,zBw wf,zFx wf,zAy wf,zAx,tEvD27,zIx,zIy,zIz,zHv,zFv,zAw wf];first|(refine zCw (Q:=Q_) (fun hp_=>?_) (fun hp_=>?_) <;> first|(exfalso;omega)|(refine hQ_ _ _ ?_;clear hQ_ Q_))|(refine zBx (Q:=Q_) (fun hp_=>?_) (fun hp_=>?_) <;> first|(exfalso;omega)|(refine hQ_ _ _ ?_;clear hQ_ Q_))|(refine hQ_ _ _ ?_;clear hQ_ Q_)))
  | (refine zHx fun K_ hK_=>?_;simp (disch:=omega) only [zGz,zAz,zHw,↓reduceIte,reduceCtorEq,Nat.reduceEqDiff,Nat.reduceLT];refine hK_ _ ?_;clear hK_ K_)))
          · refine zLx [.no,.no,.soft [11],.full] (by kernel_rfl) ?_
            (repeat' (first
  | (with_reducible first|refine zJw ?_|refine zHz ?_|refine zFz ?_|refine zEv ?_|refine zFy ?_|refine zJv ?_|refine zHy ?_|refine zCz ?_|refine zDw ?_|refine zCy ?_|refine zCv ?_|refine zEx ?_|refine zDz ?_|refine zCx ?_|refine zBy ?_|refine zEz ?_|refine zEy ?_|refine zAv ?_|refine zBz ?_)
  | refine zDy ?_|refine zEw rfl ?_|refine zJy ?_|refine zJx ?_
  | ((first|refine zGv rfl rfl rfl rfl rfl fun K_ hK_=>?_|refine zGw rfl rfl rfl rfl rfl fun K_ hK_=>?_);simp only [zAz,zDx,zGx,↓reduceIte,reduceCtorEq,Nat.reduceEqDiff,Bool.not_true,Bool.not_false];refine hK_ _ ?_;clear hK_ K_)
  | refine zDv (by decide) ?_
  | ((try first|refine zKy rfl rfl rfl ?_|refine zJz rfl rfl ?_|refine zKx rfl rfl rfl ?_|refine zIw rfl rfl ?_);(refine zIv fun Q_ hQ_=>?_;simp (disch:=first|omega|(simp only [List.length_cons,List.length_nil,List.length_append];omega)) only [bb,bp,zLz,↓reduceIte,reduceCtorEq,Nat.reduceEqDiff,Nat.reduceLT,Nat.reduceLeDiff,Nat.reduceAdd,Nat.reduceMul,Nat.reduceSub,Nat.reduceBEq,Int.reduceToNat,cond_true,cond_false,eq_self,beq_self_eq_true,g7,b3,f1,f2,zFw wf,zGy wf,zBw wf,zFx wf,zAy wf,zAx,tEvD27,zIx,zIy,zIz,zHv,zFv,zAw wf];first|(refine zCw (Q:=Q_) (fun hp_=>?_) (fun hp_=>?_) <;> first|(exfalso;omega)|(refine hQ_ _ _ ?_;clear hQ_ Q_))|(refine zBx (Q:=Q_) (fun hp_=>?_) (fun hp_=>?_) <;> first|(exfalso;omega)|(refine hQ_ _ _ ?_;clear hQ_ Q_))|(refine hQ_ _ _ ?_;clear hQ_ Q_)))
  | (refine zHx fun K_ hK_=>?_;simp (disch:=omega) only [zGz,zAz,zHw,↓reduceIte,reduceCtorEq,Nat.reduceEqDiff,Nat.reduceLT];refine hK_ _ ?_;clear hK_ K_)))
            refine zIw rfl rfl (WV_soft (v:=.tup []) (by simp (disch:=first|omega|(simp only [List.length_cons,List.length_nil,List.length_append];omega)) only [bb,bp,zLz,↓reduceIte,reduceCtorEq,Nat.reduceEqDiff,Nat.reduceLT,Nat.reduceLeDiff,Nat.reduceAdd,Nat.reduceMul,Nat.reduceSub,Nat.reduceBEq,Int.reduceToNat,cond_true,cond_false,eq_self,beq_self_eq_true,g7,b3,s3,zFw wf,zGy wf,zBw wf,zFx wf,zAy wf,zAx,tEvD27,zIx,zIy,zIz,zHv,zFv,zAw wf];rfl) (xEz (by simp only [zAz,↓reduceIte,reduceCtorEq,Nat.reduceEqDiff];exact g7) (by simp only [zAz,↓reduceIte,reduceCtorEq,Nat.reduceEqDiff];rfl) (nx_ne (by omega)) (by decide) (by decide)) ?_)
            (repeat' (first
  | (with_reducible first|refine zJw ?_|refine zHz ?_|refine zFz ?_|refine zEv ?_|refine zFy ?_|refine zJv ?_|refine zHy ?_|refine zCz ?_|refine zDw ?_|refine zCy ?_|refine zCv ?_|refine zEx ?_|refine zDz ?_|refine zCx ?_|refine zBy ?_|refine zEz ?_|refine zEy ?_|refine zAv ?_|refine zBz ?_)
  | refine zDy ?_|refine zEw rfl ?_|refine zJy ?_|refine zJx ?_
  | ((first|refine zGv rfl rfl rfl rfl rfl fun K_ hK_=>?_|refine zGw rfl rfl rfl rfl rfl fun K_ hK_=>?_);simp only [zAz,zDx,zGx,↓reduceIte,reduceCtorEq,Nat.reduceEqDiff,Bool.not_true,Bool.not_false];refine hK_ _ ?_;clear hK_ K_)
  | refine zDv (by decide) ?_
  | ((try first|refine zKy rfl rfl rfl ?_|refine zJz rfl rfl ?_|refine zKx rfl rfl rfl ?_|refine zIw rfl rfl ?_);(refine zIv fun Q_ hQ_=>?_;simp (disch:=first|omega|(simp only [List.length_cons,List.length_nil,List.length_append];omega)) only [bb,bp,zLz,↓reduceIte,reduceCtorEq,Nat.reduceEqDiff,Nat.reduceLT,Nat.reduceLeDiff,Nat.reduceAdd,Nat.reduceMul,Nat.reduceSub,Nat.reduceBEq,Int.reduceToNat,cond_true,cond_false,eq_self,beq_self_eq_true,g8,b4',s4,zFw wf,zGy wf,zBw wf,zFx wf,zAy wf,zAx,tEvD27,zIx,zIy,zIz,zHv,zFv,zAw wf];first|(refine zCw (Q:=Q_) (fun hp_=>?_) (fun hp_=>?_) <;> first|(exfalso;omega)|(refine hQ_ _ _ ?_;clear hQ_ Q_))|(refine zBx (Q:=Q_) (fun hp_=>?_) (fun hp_=>?_) <;> first|(exfalso;omega)|(refine hQ_ _ _ ?_;clear hQ_ Q_))|(refine hQ_ _ _ ?_;clear hQ_ Q_)))
  | (refine zHx fun K_ hK_=>?_;simp (disch:=omega) only [zGz,zAz,zHw,↓reduceIte,reduceCtorEq,Nat.reduceEqDiff,Nat.reduceLT];refine hK_ _ ?_;clear hK_ K_)))
            have hBl:((B.set 3 (.cells (zBv [ii (i:Int)]) 3)).set 4 (.cells (zBv [ii x.f,ii x.t,ii x.s,ii x.o,ii x.b,ii x.r]) 37)).length=B.length:=by rw [List.length_set,List.length_set]
            generalize hB2:(B.set 3 (.cells (zBv [ii (i:Int)]) 3)).set 4 (.cells (zBv [ii x.f,ii x.t,ii x.s,ii x.o,ii x.b,ii x.r]) 37)=B2 at *
            have hset2 : ∀ R o,(B2++R).set (B.length+6) o=B2++R.set 6 o:=fun R o=>by rw [← hBl,zWy]
            refine yldB_exit_X wf (k:=B.length+6) (by rw [← hBl,zXx];rfl) ho' fun o2 ho2=>?_
            simp only [hset2,List.set_cons_succ,List.set_cons_zero]
            refine ⟨B2++[.cells (zBv [ii (i:Int)]) 3,.cells (zBv [ls[i].a,ls[i].b]) 67,.cells (zBv [ii T.sp,ii T.lo,ii T.we,ii T.al,ii T.f0,ii T.f1,ii T.t0,ii T.t1,ii T.s0,ii T.s1,ii T.o0,ii T.o1,ii T.b0,ii T.b1,ii T.r0,ii T.r1,lv]) 76,.cells (zBv [.bool false]) 4,.cells (zBv [ii xo.f,ii xo.t,ii xo.s,ii xo.o,ii xo.b,ii xo.r]) 37,.dfr,o2],[.cells (zBv [ii x.f,ii x.t,ii x.s,ii x.o,ii x.b,ii x.r]) 37],_,by simp only [List.append_assoc,List.cons_append,List.nil_append];rfl,by omega,?_,.inr ⟨by first|rfl|trivial,by simp [hBl],oo,q,o2,hq,by rw [hG];assumption,⟨_,_,_,_,_,_,_,ho2⟩,by rw [hxo,hxx,hB2]⟩⟩
            simp only [List.length_append,List.length_cons,List.length_nil]
            omega
          · refine yldB_X wf (k:=B.length+6) (by rw [zXx];rfl) ho' ?_
            simp only [zWy,List.set_cons_succ,List.set_cons_zero]
            rw [← ho]
            refine ⟨B++[.cells (zBv [ii (i:Int)]) 3,.cells (zBv [ls[i].a,ls[i].b]) 67,.cells (zBv [ii T.sp,ii T.lo,ii T.we,ii T.al,ii T.f0,ii T.f1,ii T.t0,ii T.t1,ii T.s0,ii T.s1,ii T.o0,ii T.o1,ii T.b0,ii T.b1,ii T.r0,ii T.r1,lv]) 76,.cells (zBv [.bool false]) 4,.cells (zBv [ii xo.f,ii xo.t,ii xo.s,ii xo.o,ii xo.b,ii xo.r]) 37,.dfr,o],[.cells (zBv [ii x.f,ii x.t,ii x.s,ii x.o,ii x.b,ii x.r]) 37],_,by simp only [List.append_assoc,List.cons_append,List.nil_append];rfl,by omega,?_,.inl ⟨by first|rfl|trivial,oo,by rw [hxo],fun q' hq'=>?_⟩⟩
            · simp only [List.length_append,List.length_cons,List.length_nil]
              omega
            · by_cases e:q'=q
              · rw [e,hG];assumption
              · exact hnq q' (by omega)
        · rintro v h' ⟨L,J,w',rfl,hw3,hw4,⟨oo,rfl,hnq⟩|⟨_,oo,q,o2,hq,hit,⟨g',n',tm',ps',sg',bd',dd',ho2⟩,rfl⟩⟩
          · have hw4':w'≤h.clock+(B.length+7):=by simpa using hw4
            simp only [List.append_assoc,List.cons_append,List.nil_append]
            refine xGw wf (k:=B.length+6) (by rw [zXx];rfl) ho (by decide) fun o' ho'=>?_
            simp only [zWy,List.set_cons_succ,List.set_cons_zero]
            (repeat' (first
  | (with_reducible first|refine zJw ?_|refine zHz ?_|refine zFz ?_|refine zEv ?_|refine zFy ?_|refine zJv ?_|refine zHy ?_|refine zCz ?_|refine zDw ?_|refine zCy ?_|refine zCv ?_|refine zEx ?_|refine zDz ?_|refine zCx ?_|refine zBy ?_|refine zEz ?_|refine zEy ?_|refine zAv ?_|refine zBz ?_)
  | refine zDy ?_|refine zEw rfl ?_|refine zJy ?_|refine zJx ?_
  | ((first|refine zGv rfl rfl rfl rfl rfl fun K_ hK_=>?_|refine zGw rfl rfl rfl rfl rfl fun K_ hK_=>?_);simp only [zAz,zDx,zGx,↓reduceIte,reduceCtorEq,Nat.reduceEqDiff,Bool.not_true,Bool.not_false];refine hK_ _ ?_;clear hK_ K_)
  | refine zDv (by decide) ?_
  | ((try first|refine zKy rfl rfl rfl ?_|refine zJz rfl rfl ?_|refine zKx rfl rfl rfl ?_|refine zIw rfl rfl ?_);(refine zIv fun Q_ hQ_=>?_;simp (disch:=first|omega|(simp only [List.length_cons,List.length_nil,List.length_append];omega)) only [bb,bp,zLz,↓reduceIte,reduceCtorEq,Nat.reduceEqDiff,Nat.reduceLT,Nat.reduceLeDiff,Nat.reduceAdd,Nat.reduceMul,Nat.reduceSub,Nat.reduceBEq,Int.reduceToNat,cond_true,cond_false,eq_self,beq_self_eq_true,g22,zFw wf,zGy wf,zBw wf,zFx wf,zAy wf,zAx,tEvD27,zIx,zIy,zIz,zHv,zFv,zAw wf];first|(refine zCw (Q:=Q_) (fun hp_=>?_) (fun hp_=>?_) <;> first|(exfalso;omega)|(refine hQ_ _ _ ?_;clear hQ_ Q_))|(refine zBx (Q:=Q_) (fun hp_=>?_) (fun hp_=>?_) <;> first|(exfalso;omega)|(refine hQ_ _ _ ?_;clear hQ_ Q_))|(refine hQ_ _ _ ?_;clear hQ_ Q_)))
  | (refine zHx fun K_ hK_=>?_;simp (disch:=omega) only [zGz,zAz,zHw,↓reduceIte,reduceCtorEq,Nat.reduceEqDiff,Nat.reduceLT];refine hK_ _ ?_;clear hK_ K_)))
            refine zLw (i+1) (by omega) ⟨hlt,fun j hj hji q hq=>?_,by simp only [zAz,↓reduceIte,reduceCtorEq,Nat.reduceEqDiff];exact g1,by simp only [zAz,↓reduceIte,reduceCtorEq,Nat.reduceEqDiff];exact g2,by simp only [zAz,↓reduceIte,reduceCtorEq,Nat.reduceEqDiff];exact g5,by simp only [zAz,↓reduceIte,reduceCtorEq,Nat.reduceEqDiff];exact g6,by simp only [zAz,↓reduceIte,reduceCtorEq,Nat.reduceEqDiff];exact g7,by simp only [zAz,↓reduceIte,reduceCtorEq,Nat.reduceEqDiff];exact g8,by simp only [zAz,↓reduceIte,reduceCtorEq,Nat.reduceEqDiff];exact g20,by simp only [zAz,↓reduceIte,reduceCtorEq,Nat.reduceEqDiff];exact g21,by simp only [zAz,↓reduceIte,reduceCtorEq,Nat.reduceEqDiff];rfl,(B.length+5) :: ks,_,_,rfl,?_,?_,b0 _,b1 _,b2 _,b3 _,b4 _,rfl,by omega,?_⟩
            · by_cases e:j=i
              · subst e;exact hnq q hq
              · exact hno j hj (by omega) q hq
            · rw [List.nodup_cons]
              refine ⟨fun hm=>?_,hnd⟩
              have:=zSw (hks _ hm)
              omega
            · intro k' hk'
              rcases List.mem_cons.1 hk' with rfl|hk'
              · rw [zXx];rfl
              · exact get (hks k' hk') _
            · simp only [List.length_append,List.length_cons]
              omega
          · have hBl:((B.set 3 (.cells (zBv [ii (i:Int)]) 3)).set 4 (.cells (zBv (trC (cand T false (T.o0+(q:Int))))) 37)).length=B.length:=by rw [List.length_set,List.length_set]
            have e3:((B.set 3 (.cells (zBv [ii (i:Int)]) 3)).set 4 (.cells (zBv (trC (cand T false (T.o0+(q:Int))))) 37))[3]? = some (.cells (zBv [ii (i:Int)]) 3):=by rw [List.getElem?_set_ne (by omega),List.getElem?_set_self (by omega)]
            have e4:((B.set 3 (.cells (zBv [ii (i:Int)]) 3)).set 4 (.cells (zBv (trC (cand T false (T.o0+(q:Int))))) 37))[4]? = some (.cells (zBv (trC (cand T false (T.o0+(q:Int))))) 37):=by rw [List.getElem?_set_self (by rw [List.length_set];omega)]
            have e1:((B.set 3 (.cells (zBv [ii (i:Int)]) 3)).set 4 (.cells (zBv (trC (cand T false (T.o0+(q:Int))))) 37))[1]? = some (.cells (zBv [ii 0,ii 0,ii 0,ii 0,ii 0,ii 0]) 37):=by rw [List.getElem?_set_ne (by omega),List.getElem?_set_ne (by omega)];exact hb1
            have ek : ∀ k' ∈ ks,((B.set 3 (.cells (zBv [ii (i:Int)]) 3)).set 4 (.cells (zBv (trC (cand T false (T.o0+(q:Int))))) 37))[k']? = some .dfr:=fun k' hk'=>by
              have h1:=hks k' hk'
              have n3:3≠k':=fun e=>by rw [← e,hb3] at h1;cases h1
              have n4:4≠k':=fun e=>by rw [← e,hb4] at h1;cases h1
              rw [List.getElem?_set_ne n4,List.getElem?_set_ne n3];exact h1
            generalize (B.set 3 (.cells (zBv [ii (i:Int)]) 3)).set 4 (.cells (zBv (trC (cand T false (T.o0+(q:Int))))) 37)=B2 at *
            have get2 : ∀ {k:Nat} {o:AO},B2[k]? = some o → ∀ J,(B2++J)[k]? = some o:=fun {k o} hq J=>by rw [List.getElem?_append_left (zSw hq)];exact hq
            have c3:=get2 e3
            have c4:=get2 e4
            have c1:=get2 e1
            have hset2 : ∀ R o,(B2++R).set (B.length+6) o=B2++R.set 6 o:=fun R o=>by rw [← hBl,zWy]
            have hset1 : ∀ R o,(B2++R).set 1 o=B2.set 1 o++R:=fun R o=>List.set_append_left _ _ (by omega)
            have hw4':w'≤h.clock+(B.length+7):=by simpa [hBl] using hw4
            simp only [List.append_assoc,List.cons_append,List.nil_append]
            refine xGw wf (k:=B.length+6) (by rw [← hBl,zXx];rfl) ho2 (by decide) fun o' ho'=>?_
            simp only [hset2,List.set_cons_succ,List.set_cons_zero]
            unfold trC at c4
            unfold trC
            generalize hx:cand T false (T.o0+(q:Int))=x at *
            (repeat' (first
  | (with_reducible first|refine zJw ?_|refine zHz ?_|refine zFz ?_|refine zEv ?_|refine zFy ?_|refine zJv ?_|refine zHy ?_|refine zCz ?_|refine zDw ?_|refine zCy ?_|refine zCv ?_|refine zEx ?_|refine zDz ?_|refine zCx ?_|refine zBy ?_|refine zEz ?_|refine zEy ?_|refine zAv ?_|refine zBz ?_)
  | refine zDy ?_|refine zEw rfl ?_|refine zJy ?_|refine zJx ?_
  | ((first|refine zGv rfl rfl rfl rfl rfl fun K_ hK_=>?_|refine zGw rfl rfl rfl rfl rfl fun K_ hK_=>?_);simp only [zAz,zDx,zGx,↓reduceIte,reduceCtorEq,Nat.reduceEqDiff,Bool.not_true,Bool.not_false];refine hK_ _ ?_;clear hK_ K_)
  | refine zDv (by decide) ?_
  | ((try first|refine zKy rfl rfl rfl ?_|refine zJz rfl rfl ?_|refine zKx rfl rfl rfl ?_|refine zIw rfl rfl ?_);(refine zIv fun Q_ hQ_=>?_;simp (disch:=first|omega|(simp only [List.length_cons,List.length_nil,List.length_append];omega)) only [bb,bp,zLz,↓reduceIte,reduceCtorEq,Nat.reduceEqDiff,Nat.reduceLT,Nat.reduceLeDiff,Nat.reduceAdd,Nat.reduceMul,Nat.reduceSub,Nat.reduceBEq,Int.reduceToNat,cond_true,cond_false,eq_self,beq_self_eq_true,g5,g7,g8,c3,c4,c1,zFw wf,zGy wf,zBw wf,zFx wf,zAy wf,zAx,tEvD27,zIx,zIy,zIz,zHv,zFv,zAw wf];first|(refine zCw (Q:=Q_) (fun hp_=>?_) (fun hp_=>?_) <;> first|(exfalso;omega)|(refine hQ_ _ _ ?_;clear hQ_ Q_))|(refine zBx (Q:=Q_) (fun hp_=>?_) (fun hp_=>?_) <;> first|(exfalso;omega)|(refine hQ_ _ _ ?_;clear hQ_ Q_))|(refine hQ_ _ _ ?_;clear hQ_ Q_)))
  | (refine zHx fun K_ hK_=>?_;simp (disch:=omega) only [zGz,zAz,zHw,↓reduceIte,reduceCtorEq,Nat.reduceEqDiff,Nat.reduceLT];refine hK_ _ ?_;clear hK_ K_)))
            refine zLx [.no,.no,.no,.full] (by kernel_rfl) ?_
            (repeat' (first
  | (with_reducible first|refine zJw ?_|refine zHz ?_|refine zFz ?_|refine zEv ?_|refine zFy ?_|refine zJv ?_|refine zHy ?_|refine zCz ?_|refine zDw ?_|refine zCy ?_|refine zCv ?_|refine zEx ?_|refine zDz ?_|refine zCx ?_|refine zBy ?_|refine zEz ?_|refine zEy ?_|refine zAv ?_|refine zBz ?_)
  | refine zDy ?_|refine zEw rfl ?_|refine zJy ?_|refine zJx ?_
  | ((first|refine zGv rfl rfl rfl rfl rfl fun K_ hK_=>?_|refine zGw rfl rfl rfl rfl rfl fun K_ hK_=>?_);simp only [zAz,zDx,zGx,↓reduceIte,reduceCtorEq,Nat.reduceEqDiff,Bool.not_true,Bool.not_false];refine hK_ _ ?_;clear hK_ K_)
  | refine zDv (by decide) ?_
  | ((try first|refine zKy rfl rfl rfl ?_|refine zJz rfl rfl ?_|refine zKx rfl rfl rfl ?_|refine zIw rfl rfl ?_);(refine zIv fun Q_ hQ_=>?_;simp (disch:=first|omega|(simp only [List.length_cons,List.length_nil,List.length_append];omega)) only [bb,bp,zLz,↓reduceIte,reduceCtorEq,Nat.reduceEqDiff,Nat.reduceLT,Nat.reduceLeDiff,Nat.reduceAdd,Nat.reduceMul,Nat.reduceSub,Nat.reduceBEq,Int.reduceToNat,cond_true,cond_false,eq_self,beq_self_eq_true,g5,g7,g8,c3,c4,c1,hset1,zFw wf,zGy wf,zBw wf,zFx wf,zAy wf,zAx,tEvD27,zIx,zIy,zIz,zHv,zFv,zAw wf];first|(refine zCw (Q:=Q_) (fun hp_=>?_) (fun hp_=>?_) <;> first|(exfalso;omega)|(refine hQ_ _ _ ?_;clear hQ_ Q_))|(refine zBx (Q:=Q_) (fun hp_=>?_) (fun hp_=>?_) <;> first|(exfalso;omega)|(refine hQ_ _ _ ?_;clear hQ_ Q_))|(refine hQ_ _ _ ?_;clear hQ_ Q_)))
  | (refine zHx fun K_ hK_=>?_;simp (disch:=omega) only [zGz,zAz,zHw,↓reduceIte,reduceCtorEq,Nat.reduceEqDiff,Nat.reduceLT];refine hK_ _ ?_;clear hK_ K_)))
            have hBs:(B2.set 1 (.cells (zBv [ii x.f,ii x.t,ii x.s,ii x.o,ii x.b,ii x.r]) 37)).length=B.length:=by rw [List.length_set,hBl]
            have hks2 : ∀ k' ∈ (B.length+5) :: ks,(B2.set 1 (.cells (zBv [ii x.f,ii x.t,ii x.s,ii x.o,ii x.b,ii x.r]) 37) ++ .cells (zBv [ii (i:Int)]) 3 :: .cells (zBv [ls[i].a,ls[i].b]) 67 :: .cells (zBv [ii T.sp,ii T.lo,ii T.we,ii T.al,ii T.f0,ii T.f1,ii T.t0,ii T.t1,ii T.s0,ii T.s1,ii T.o0,ii T.o1,ii T.b0,ii T.b1,ii T.r0,ii T.r1,lv]) 76 :: .cells (zBv [.bool false]) 4 :: .cells (zBv [ii (cand T false oo).f,ii (cand T false oo).t,ii (cand T false oo).s,ii (cand T false oo).o,ii (cand T false oo).b,ii (cand T false oo).r]) 37 :: .dfr :: o' :: J)[k']? = some .dfr:=fun k' hk'=>by
              rcases List.mem_cons.1 hk' with rfl|hk'
              · rw [← hBs,zXx];rfl
              · have h1:=ek k' hk'
                have n1:1≠k':=fun e=>by rw [← e,e1] at h1;cases h1
                rw [List.getElem?_append_left (by rw [List.length_set];exact zSw h1),List.getElem?_set_ne n1];exact h1
            obtain ⟨L2,w2,ht,hl2,hwa,hwb,hkeep⟩:=xIz wf (Nat.le_refl h.clock) ((B.length+5) :: ks) _ (min (min (h.clock+(B.length+6)) w') (min (h.clock+1) (h.clock+(B2.length+(J.length+1+1+1+1+1+1+1))))) (by
              rw [List.nodup_cons]
              refine ⟨fun hm=>?_,hnd⟩
              have:=zSw (hks _ hm)
              omega) hks2 (by omega)
            have hc5:=hkeep 37 1 (zBv [ii x.f,ii x.t,ii x.s,ii x.o,ii x.b,ii x.r]) (by rw [List.getElem?_append_left (by rw [hBs];omega),List.getElem?_set_self (by omega)])
            refine zKz _ _ ht (rettc0 (x:=.agg [ii x.f,ii x.t,ii x.s,ii x.o,ii x.b,ii x.r]) (by decide) (by decide) (by simp (disch:=first|omega|(simp only [List.length_cons,List.length_nil,List.length_append];omega)) only [bb,bp,zLz,↓reduceIte,reduceCtorEq,Nat.reduceEqDiff,Nat.reduceLT,Nat.reduceLeDiff,Nat.reduceAdd,Nat.reduceMul,Nat.reduceSub,Nat.reduceBEq,Int.reduceToNat,cond_true,cond_false,eq_self,beq_self_eq_true,g5,hc5,zBw wf,tEvD27,zIx,zIy,zIz,zHv,zFv,zAw wf])) ?_
            simp only [zAz,↓reduceIte,reduceCtorEq,Nat.reduceEqDiff]
            refine zKw rfl (by omega) ?_
            exact ⟨i,q,hlt,hq,hit,by rw [hx],rfl⟩
      · exfalso
        obtain ⟨j,hj,q,hq,e⟩:=hex
        exact hno j hj (by omega) q hq e
    · exact ⟨Nat.zero_le _,fun j _ hj=>absurd hj (Nat.not_lt_zero j),by simp only [zAz,↓reduceIte,reduceCtorEq,Nat.reduceEqDiff],by simp only [zAz,↓reduceIte,reduceCtorEq,Nat.reduceEqDiff],by simp only [zAz,↓reduceIte,reduceCtorEq,Nat.reduceEqDiff],by simp only [zAz,↓reduceIte,reduceCtorEq,Nat.reduceEqDiff],by simp only [zAz,↓reduceIte,reduceCtorEq,Nat.reduceEqDiff],by simp only [zAz,↓reduceIte,reduceCtorEq,Nat.reduceEqDiff],by simp only [zAz,↓reduceIte,reduceCtorEq,Nat.reduceEqDiff],by simp only [zAz,↓reduceIte,reduceCtorEq,Nat.reduceEqDiff],by simp only [zAz,↓reduceIte,reduceCtorEq,Nat.reduceEqDiff];rfl,[],_,_,rfl,List.nodup_nil,fun k hk=>(by cases hk),rfl,rfl,rfl,rfl,rfl,rfl,Nat.le_refl _,Nat.le_add_right _ _⟩
  · (repeat' (first
  | (with_reducible first|refine zJw ?_|refine zHz ?_|refine zFz ?_|refine zEv ?_|refine zFy ?_|refine zJv ?_|refine zHy ?_|refine zCz ?_|refine zDw ?_|refine zCy ?_|refine zCv ?_|refine zEx ?_|refine zDz ?_|refine zCx ?_|refine zBy ?_|refine zEz ?_|refine zEy ?_|refine zAv ?_|refine zBz ?_)
  | refine zDy ?_|refine zEw rfl ?_|refine zJy ?_|refine zJx ?_
  | ((first|refine zGv rfl rfl rfl rfl rfl fun K_ hK_=>?_|refine zGw rfl rfl rfl rfl rfl fun K_ hK_=>?_);simp only [zAz,zDx,zGx,↓reduceIte,reduceCtorEq,Nat.reduceEqDiff,Bool.not_true,Bool.not_false];refine hK_ _ ?_;clear hK_ K_)
  | refine zDv (by decide) ?_
  | ((try first|refine zKy rfl rfl rfl ?_|refine zJz rfl rfl ?_|refine zKx rfl rfl rfl ?_|refine zIw rfl rfl ?_);(refine zIv fun Q_ hQ_=>?_;simp (disch:=first|omega|(simp only [List.length_cons,List.length_nil,List.length_append];omega)) only [bb,bp,zLz,↓reduceIte,reduceCtorEq,Nat.reduceEqDiff,Nat.reduceLT,Nat.reduceLeDiff,Nat.reduceAdd,Nat.reduceMul,Nat.reduceSub,Nat.reduceBEq,Int.reduceToNat,cond_true,cond_false,eq_self,beq_self_eq_true,f1,f2,hl,fld0,fld1,zFw wf,zGy wf,zBw wf,zFx wf,zAy wf,zAx,tEvD27,zIx,zIy,zIz,zHv,zFv,zAw wf];first|(refine zCw (Q:=Q_) (fun hp_=>?_) (fun hp_=>?_) <;> first|(exfalso;omega)|(refine hQ_ _ _ ?_;clear hQ_ Q_))|(refine zBx (Q:=Q_) (fun hp_=>?_) (fun hp_=>?_) <;> first|(exfalso;omega)|(refine hQ_ _ _ ?_;clear hQ_ Q_))|(refine hQ_ _ _ ?_;clear hQ_ Q_)|(refine zMz (hs _ _ (by first|omega|(simp only [List.length_append,List.length_cons,List.length_nil];omega))) ?_;refine hQ_ _ _ ?_;clear hQ_ Q_)))
  | (refine zHx fun K_ hK_=>?_;simp (disch:=omega) only [zGz,zAz,zHw,↓reduceIte,reduceCtorEq,Nat.reduceEqDiff,Nat.reduceLT];refine hK_ _ ?_;clear hK_ K_)))
    refine zZv (fun (i:Nat) f d h'=>i≤ls.length∧(∀ j (hj:j<ls.length),j<i → ∀ q,q<cnt T→cg T ls[j].re ls[j].cf true q≠spanV T ls true)∧f 1 = .bool true∧f 2 = .ptr (nx h 0) 0∧f 5 = .ptr (nx h 1) 0∧f 6 = .ptr (nx h 2) 0∧f 7 = .ptr (nx h 3) 0∧f 8 = .ptr (nx h 4) 0∧f 20=lv∧f 21=ii (ls.length:Int)∧f 22=ii (i:Int) ∧
      ∃ (ks:List Nat) (B:List AO) (w:Nat),d=ks.map (nx h)∧ks.Nodup∧(∀ k ∈ ks,B[k]? = some .dfr)∧B[0]? = some (.cells (zBv [ii T.sp,ii T.lo,ii T.we,ii T.al,ii T.f0,ii T.f1,ii T.t0,ii T.t1,ii T.s0,ii T.s1,ii T.o0,ii T.o1,ii T.b0,ii T.b1,ii T.r0,ii T.r1,lv]) 76)∧B[1]? = some (.cells (zBv [ii 0,ii 0,ii 0,ii 0,ii 0,ii 0]) 37)∧B[2]? = some (.cells (zBv [ii (spanV T ls true)]) 2)∧B[3]? = some (.cells (zBv [ii 0]) 3)∧B[4]? = some (.cells (zBv [ii 0,ii 0,ii 0,ii 0,ii 0,ii 0]) 37)∧h'=X h B w∧h.clock≤w∧w≤h.clock+B.length) (fun i=>ls.length - i) ?_ (ls.length+1) 0 (by omega) ?_
    · rintro i f d h' ⟨hi,hno,g1,g2,g5,g6,g7,g8,g20,g21,g22,ks,B,w,rfl,hnd,hks,hb0,hb1,hb2,hb3,hb4,rfl,hw1,hw2⟩
      by_cases hlt:i<ls.length
      · obtain ⟨id,off,hix,hld,hln⟩:=x.at ik_74 hlt
        obtain ⟨⟨fa,fa'⟩,⟨fb,fb'⟩⟩:=hln.flats
        have kl:=hk.ok _ (List.getElem_mem hlt)
        have hin:=hr _ (List.getElem_mem hlt)
        have get : ∀ {k:Nat} {o:AO},B[k]? = some o → ∀ J,(B++J)[k]? = some o:=fun {k o} hq J=>by rw [List.getElem?_append_left (zSw hq)];exact hq
        have b0:=get hb0
        have b1:=get hb1
        have b2:=get hb2
        have b3:=get hb3
        have b4:=get hb4
        have hB5:=zSw hb4
        have s3 : ∀ J o,(B++J).set 3 o=B.set 3 o++J:=fun J o=>List.set_append_left _ _ (by omega)
        have s4 : ∀ J o o',(B.set 3 o++J).set 4 o'=(B.set 3 o).set 4 o'++J:=fun J o o'=>List.set_append_left _ _ (by rw [List.length_set];omega)
        have b4' : ∀ J o,(B.set 3 o++J)[4]? = some (.cells (zBv [ii 0,ii 0,ii 0,ii 0,ii 0,ii 0]) 37):=fun J o=>by
          rw [List.getElem?_append_left (by rw [List.length_set];omega),List.getElem?_set_ne (by omega)];exact hb4
        (repeat' (first
  | (with_reducible first|refine zJw ?_|refine zHz ?_|refine zFz ?_|refine zEv ?_|refine zFy ?_|refine zJv ?_|refine zHy ?_|refine zCz ?_|refine zDw ?_|refine zCy ?_|refine zCv ?_|refine zEx ?_|refine zDz ?_|refine zCx ?_|refine zBy ?_|refine zEz ?_|refine zEy ?_|refine zAv ?_|refine zBz ?_)
  | refine zDy ?_|refine zEw rfl ?_|refine zJy ?_|refine zJx ?_
  | ((first|refine zGv rfl rfl rfl rfl rfl fun K_ hK_=>?_|refine zGw rfl rfl rfl rfl rfl fun K_ hK_=>?_);simp only [zAz,zDx,zGx,↓reduceIte,reduceCtorEq,Nat.reduceEqDiff,Bool.not_true,Bool.not_false];refine hK_ _ ?_;clear hK_ K_)
  | refine zDv (by decide) ?_
  | ((try first|refine zKy rfl rfl rfl ?_|refine zJz rfl rfl ?_|refine zKx rfl rfl rfl ?_|refine zIw rfl rfl ?_);(refine zIv fun Q_ hQ_=>?_;simp (disch:=first|omega|(simp only [List.length_cons,List.length_nil,List.length_append];omega)) only [bb,bp,zLz,↓reduceIte,reduceCtorEq,Nat.reduceEqDiff,Nat.reduceLT,Nat.reduceLeDiff,Nat.reduceAdd,Nat.reduceMul,Nat.reduceSub,Nat.reduceBEq,Int.reduceToNat,cond_true,cond_false,eq_self,beq_self_eq_true,g1,g2,g5,g6,g7,g8,g20,g21,g22,hix,hld,b0,f1,f2,fa,fb,fa',fb',zFw wf,zGy wf,zBw wf,zFx wf,zAy wf,zAx,tEvD27,zIx,zIy,zIz,zHv,zFv,zAw wf];first|(refine zCw (Q:=Q_) (fun hp_=>?_) (fun hp_=>?_) <;> first|(exfalso;omega)|(refine hQ_ _ _ ?_;clear hQ_ Q_))|(refine zBx (Q:=Q_) (fun hp_=>?_) (fun hp_=>?_) <;> first|(exfalso;omega)|(refine hQ_ _ _ ?_;clear hQ_ Q_))|(refine hQ_ _ _ ?_;clear hQ_ Q_)|(refine zMz (candidates T lv ⟨f1,f2⟩ true h wf _ _ (by first|omega|(simp only [List.length_append,List.length_cons,List.length_nil];omega))) ?_;refine hQ_ _ _ ?_;clear hQ_ Q_)))
  | (refine zHx fun K_ hK_=>?_;simp (disch:=omega) only [zGz,zAz,zHw,↓reduceIte,reduceCtorEq,Nat.reduceEqDiff,Nat.reduceLT];refine hK_ _ ?_;clear hK_ K_)))
        simp only [List.append_assoc,List.cons_append,List.nil_append,List.length_append,List.length_cons,List.length_nil,Nat.zero_add,Nat.reduceAdd,Nat.add_assoc]
        refine xRw wf rfl (zGz (by decide)) fun o ho=>?_
        simp only [zAz,↓reduceIte,reduceCtorEq,Nat.reduceEqDiff,List.append_assoc,List.cons_append,List.nil_append,List.length_append,List.length_cons,List.length_nil,Nat.zero_add,Nat.reduceAdd,Nat.add_assoc]
        refine WV.mono (cands T k lv true wf (B.length+2) (B.length+4) (nx h (B.length+6)) _ _ ?_ ?_ (fun q L=>∃ oo,L=B++[.cells (zBv [ii (i:Int)]) 3,.cells (zBv [ls[i].a,ls[i].b]) 67,.cells (zBv [ii T.sp,ii T.lo,ii T.we,ii T.al,ii T.f0,ii T.f1,ii T.t0,ii T.t1,ii T.s0,ii T.s1,ii T.o0,ii T.o1,ii T.b0,ii T.b1,ii T.r0,ii T.r1,lv]) 76,.cells (zBv [.bool true]) 4,.cells (zBv (trC (cand T true oo))) 37,.dfr,o] ∧ ∀ q',q'<q→cg T ls[i].re ls[i].cf true q'≠spanV T ls true)
          (fun L=>∃ oo q o2,q<cnt T∧cg T ls[i].re ls[i].cf true q=spanV T ls true∧doneE o2∧L=(B.set 3 (.cells (zBv [ii (i:Int)]) 3)).set 4 (.cells (zBv (trC (cand T true (T.o0+(q:Int))))) 37)++[.cells (zBv [ii (i:Int)]) 3,.cells (zBv [ls[i].a,ls[i].b]) 67,.cells (zBv [ii T.sp,ii T.lo,ii T.we,ii T.al,ii T.f0,ii T.f1,ii T.t0,ii T.t1,ii T.s0,ii T.s1,ii T.o0,ii T.o1,ii T.b0,ii T.b1,ii T.r0,ii T.r1,lv]) 76,.cells (zBv [.bool true]) 4,.cells (zBv (trC (cand T true oo))) 37,.dfr,o2]) ?_ ?_ ?_ ⟨0,rfl,fun q' h=>absurd h (Nat.not_lt_zero q')⟩) ?_
        · exact (by first|omega|(simp only [List.length_append,List.length_cons,List.length_nil];omega))
        · omega
        · rintro q L ⟨oo,rfl,_⟩
          exact ⟨by simp,by rw [zXx];rfl,oo,by rw [zXx];rfl⟩
        · rintro q L o' ⟨oo,rfl,hq⟩
          exact ⟨o',by rw [zWy];rfl,hq⟩
        · rintro q hq L J w' ⟨oo,rfl,hnq⟩ hw3 hw4
          have hw4':w'≤h.clock+(B.length+7+J.length):=by simpa using hw4
          have kx:=xDv k true (o:=T.o0+(q:Int)) ⟨by omega,by omega⟩
          have hxi:=xDw k hin kx
          have hgq:cg T ls[i].re ls[i].cf true q=coef T ls[i].re ls[i].cf (cand T true (T.o0+(q:Int))):=rfl
          have hcx:=fun l w hw=>coefficient T k lv ⟨f1,f2⟩ _ _ _ _ kl (cand T true (T.o0+(q:Int))) kx hxi.1 hxi.2 _ (hln.up l w hw)
          rw [← hgq] at hcx
          simp only [List.append_assoc,List.cons_append,List.nil_append]
          unfold trC
          generalize hxo:cand T true oo=xo at *
          generalize hxx:cand T true (T.o0+(q:Int))=x at *
          generalize hW:spanV T ls true=W at *
          generalize hG:cg T ls[i].re ls[i].cf true q=g at *
          refine WV_yldX wf (k:=B.length+6) (by rw [zXx];rfl) ho (setParams1 rfl) ?_
          (repeat' (first
  | (with_reducible first|refine zJw ?_|refine zHz ?_|refine zFz ?_|refine zEv ?_|refine zFy ?_|refine zJv ?_|refine zHy ?_|refine zCz ?_|refine zDw ?_|refine zCy ?_|refine zCv ?_|refine zEx ?_|refine zDz ?_|refine zCx ?_|refine zBy ?_|refine zEz ?_|refine zEy ?_|refine zAv ?_|refine zBz ?_)
  | refine zDy ?_|refine zEw rfl ?_|refine zJy ?_|refine zJx ?_
  | ((first|refine zGv rfl rfl rfl rfl rfl fun K_ hK_=>?_|refine zGw rfl rfl rfl rfl rfl fun K_ hK_=>?_);simp only [zAz,zDx,zGx,↓reduceIte,reduceCtorEq,Nat.reduceEqDiff,Bool.not_true,Bool.not_false];refine hK_ _ ?_;clear hK_ K_)
  | refine zDv (by decide) ?_
  | ((try first|refine zKy rfl rfl rfl ?_|refine zJz rfl rfl ?_|refine zKx rfl rfl rfl ?_|refine zIw rfl rfl ?_);(refine zIv fun Q_ hQ_=>?_;simp (disch:=first|omega|(simp only [List.length_cons,List.length_nil,List.length_append];omega)) only [bb,bp,zLz,↓reduceIte,reduceCtorEq,Nat.reduceEqDiff,Nat.reduceLT,Nat.reduceLeDiff,Nat.reduceAdd,Nat.reduceMul,Nat.reduceSub,Nat.reduceBEq,Int.reduceToNat,cond_true,cond_false,eq_self,beq_self_eq_true,zFw wf,zGy wf,zBw wf,zFx wf,zAy wf,zAx,tEvD27,zIx,zIy,zIz,zHv,zFv,zAw wf];first|(refine zCw (Q:=Q_) (fun hp_=>?_) (fun hp_=>?_) <;> first|(exfalso;omega)|(refine hQ_ _ _ ?_;clear hQ_ Q_))|(refine zBx (Q:=Q_) (fun hp_=>?_) (fun hp_=>?_) <;> first|(exfalso;omega)|(refine hQ_ _ _ ?_;clear hQ_ Q_))|(refine hQ_ _ _ ?_;clear hQ_ Q_)))
  | (refine zHx fun K_ hK_=>?_;simp (disch:=omega) only [zGz,zAz,zHw,↓reduceIte,reduceCtorEq,Nat.reduceEqDiff,Nat.reduceLT];refine hK_ _ ?_;clear hK_ K_)))
          refine yldA_X wf (k:=B.length+6) (by rw [zXx];rfl) ho fun o' ho'=>?_
          simp only [zWy,List.set_cons_succ,List.set_cons_zero]
          (repeat' (first
  | (with_reducible first|refine zJw ?_|refine zHz ?_|refine zFz ?_|refine zEv ?_|refine zFy ?_|refine zJv ?_|refine zHy ?_|refine zCz ?_|refine zDw ?_|refine zCy ?_|refine zCv ?_|refine zEx ?_|refine zDz ?_|refine zCx ?_|refine zBy ?_|refine zEz ?_|refine zEy ?_|refine zAv ?_|refine zBz ?_)
  | refine zDy ?_|refine zEw rfl ?_|refine zJy ?_|refine zJx ?_
  | ((first|refine zGv rfl rfl rfl rfl rfl fun K_ hK_=>?_|refine zGw rfl rfl rfl rfl rfl fun K_ hK_=>?_);simp only [zAz,zDx,zGx,↓reduceIte,reduceCtorEq,Nat.reduceEqDiff,Bool.not_true,Bool.not_false];refine hK_ _ ?_;clear hK_ K_)
  | refine zDv (by decide) ?_
  | ((try first|refine zKy rfl rfl rfl ?_|refine zJz rfl rfl ?_|refine zKx rfl rfl rfl ?_|refine zIw rfl rfl ?_);(refine zIv fun Q_ hQ_=>?_;simp (disch:=first|omega|(simp only [List.length_cons,List.length_nil,List.length_append];omega)) only [bb,bp,zLz,↓reduceIte,reduceCtorEq,Nat.reduceEqDiff,Nat.reduceLT,Nat.reduceLeDiff,Nat.reduceAdd,Nat.reduceMul,Nat.reduceSub,Nat.reduceBEq,Int.reduceToNat,cond_true,cond_false,eq_self,beq_self_eq_true,g2,g6,b0,b2,f1,f2,fa,fb,fa',fb',zFw wf,zGy wf,zBw wf,zFx wf,zAy wf,zAx,tEvD27,zIx,zIy,zIz,zHv,zFv,zAw wf];first|(refine zCw (Q:=Q_) (fun hp_=>?_) (fun hp_=>?_) <;> first|(exfalso;omega)|(refine hQ_ _ _ ?_;clear hQ_ Q_))|(refine zBx (Q:=Q_) (fun hp_=>?_) (fun hp_=>?_) <;> first|(exfalso;omega)|(refine hQ_ _ _ ?_;clear hQ_ Q_))|(refine hQ_ _ _ ?_;clear hQ_ Q_)))
  | (refine zHx fun K_ hK_=>?_;simp (disch:=omega) only [zGz,zAz,zHw,↓reduceIte,reduceCtorEq,Nat.reduceEqDiff,Nat.reduceLT];refine hK_ _ ?_;clear hK_ K_)))
          refine zLx [.no,.no,.no,.no,.no,.no,.full] (by kernel_rfl) ?_
          (repeat' (first
  | (with_reducible first|refine zJw ?_|refine zHz ?_|refine zFz ?_|refine zEv ?_|refine zFy ?_|refine zJv ?_|refine zHy ?_|refine zCz ?_|refine zDw ?_|refine zCy ?_|refine zCv ?_|refine zEx ?_|refine zDz ?_|refine zCx ?_|refine zBy ?_|refine zEz ?_|refine zEy ?_|refine zAv ?_|refine zBz ?_)
  | refine zDy ?_|refine zEw rfl ?_|refine zJy ?_|refine zJx ?_
  | ((first|refine zGv rfl rfl rfl rfl rfl fun K_ hK_=>?_|refine zGw rfl rfl rfl rfl rfl fun K_ hK_=>?_);simp only [zAz,zDx,zGx,↓reduceIte,reduceCtorEq,Nat.reduceEqDiff,Bool.not_true,Bool.not_false];refine hK_ _ ?_;clear hK_ K_)
  | refine zDv (by decide) ?_
  | ((try first|refine zKy rfl rfl rfl ?_|refine zJz rfl rfl ?_|refine zKx rfl rfl rfl ?_|refine zIw rfl rfl ?_);(refine zIv fun Q_ hQ_=>?_;simp (disch:=first|omega|(simp only [List.length_cons,List.length_nil,List.length_append];omega)) only [bb,bp,zLz,↓reduceIte,reduceCtorEq,Nat.reduceEqDiff,Nat.reduceLT,Nat.reduceLeDiff,Nat.reduceAdd,Nat.reduceMul,Nat.reduceSub,Nat.reduceBEq,Int.reduceToNat,cond_true,cond_false,eq_self,beq_self_eq_true,g2,g6,b0,b2,f1,f2,fa,fb,fa',fb',hcx,zFw wf,zGy wf,zBw wf,zFx wf,zAy wf,zAx,tEvD27,zIx,zIy,zIz,zHv,zFv,zAw wf];first|(refine zCw (Q:=Q_) (fun hp_=>?_) (fun hp_=>?_) <;> first|(exfalso;omega)|(refine hQ_ _ _ ?_;clear hQ_ Q_))|(refine zBx (Q:=Q_) (fun hp_=>?_) (fun hp_=>?_) <;> first|(exfalso;omega)|(refine hQ_ _ _ ?_;clear hQ_ Q_))|(refine hQ_ _ _ ?_;clear hQ_ Q_)))
  | (refine zHx fun K_ hK_=>?_;simp (disch:=omega) only [zGz,zAz,zHw,↓reduceIte,reduceCtorEq,Nat.reduceEqDiff,Nat.reduceLT];refine hK_ _ ?_;clear hK_ K_)))
          · refine zLx [.no,.no,.soft [11],.full] (by kernel_rfl) ?_
            (repeat' (first
  | (with_reducible first|refine zJw ?_|refine zHz ?_|refine zFz ?_|refine zEv ?_|refine zFy ?_|refine zJv ?_|refine zHy ?_|refine zCz ?_|refine zDw ?_|refine zCy ?_|refine zCv ?_|refine zEx ?_|refine zDz ?_|refine zCx ?_|refine zBy ?_|refine zEz ?_|refine zEy ?_|refine zAv ?_|refine zBz ?_)
  | refine zDy ?_|refine zEw rfl ?_|refine zJy ?_|refine zJx ?_
  | ((first|refine zGv rfl rfl rfl rfl rfl fun K_ hK_=>?_|refine zGw rfl rfl rfl rfl rfl fun K_ hK_=>?_);simp only [zAz,zDx,zGx,↓reduceIte,reduceCtorEq,Nat.reduceEqDiff,Bool.not_true,Bool.not_false];refine hK_ _ ?_;clear hK_ K_)
  | refine zDv (by decide) ?_
  | ((try first|refine zKy rfl rfl rfl ?_|refine zJz rfl rfl ?_|refine zKx rfl rfl rfl ?_|refine zIw rfl rfl ?_);(refine zIv fun Q_ hQ_=>?_;simp (disch:=first|omega|(simp only [List.length_cons,List.length_nil,List.length_append];omega)) only [bb,bp,zLz,↓reduceIte,reduceCtorEq,Nat.reduceEqDiff,Nat.reduceLT,Nat.reduceLeDiff,Nat.reduceAdd,Nat.reduceMul,Nat.reduceSub,Nat.reduceBEq,Int.reduceToNat,cond_true,cond_false,eq_self,beq_self_eq_true,g7,b3,f1,f2,zFw wf,zGy wf,zBw wf,zFx wf,zAy wf,zAx,tEvD27,zIx,zIy,zIz,zHv,zFv,zAw wf];first|(refine zCw (Q:=Q_) (fun hp_=>?_) (fun hp_=>?_) <;> first|(exfalso;omega)|(refine hQ_ _ _ ?_;clear hQ_ Q_))|(refine zBx (Q:=Q_) (fun hp_=>?_) (fun hp_=>?_) <;> first|(exfalso;omega)|(refine hQ_ _ _ ?_;clear hQ_ Q_))|(refine hQ_ _ _ ?_;clear hQ_ Q_)))
  | (refine zHx fun K_ hK_=>?_;simp (disch:=omega) only [zGz,zAz,zHw,↓reduceIte,reduceCtorEq,Nat.reduceEqDiff,Nat.reduceLT];refine hK_ _ ?_;clear hK_ K_)))
            refine zIw rfl rfl (WV_soft (v:=.tup []) (by simp (disch:=first|omega|(simp only [List.length_cons,List.length_nil,List.length_append];omega)) only [bb,bp,zLz,↓reduceIte,reduceCtorEq,Nat.reduceEqDiff,Nat.reduceLT,Nat.reduceLeDiff,Nat.reduceAdd,Nat.reduceMul,Nat.reduceSub,Nat.reduceBEq,Int.reduceToNat,cond_true,cond_false,eq_self,beq_self_eq_true,g7,b3,s3,zFw wf,zGy wf,zBw wf,zFx wf,zAy wf,zAx,tEvD27,zIx,zIy,zIz,zHv,zFv,zAw wf];rfl) (xEz (by simp only [zAz,↓reduceIte,reduceCtorEq,Nat.reduceEqDiff];exact g7) (by simp only [zAz,↓reduceIte,reduceCtorEq,Nat.reduceEqDiff];rfl) (nx_ne (by omega)) (by decide) (by decide)) ?_)
            (repeat' (first
  | (with_reducible first|refine zJw ?_|refine zHz ?_|refine zFz ?_|refine zEv ?_|refine zFy ?_|refine zJv ?_|refine zHy ?_|refine zCz ?_|refine zDw ?_|refine zCy ?_|refine zCv ?_|refine zEx ?_|refine zDz ?_|refine zCx ?_|refine zBy ?_|refine zEz ?_|refine zEy ?_|refine zAv ?_|refine zBz ?_)
  | refine zDy ?_|refine zEw rfl ?_|refine zJy ?_|refine zJx ?_
  | ((first|refine zGv rfl rfl rfl rfl rfl fun K_ hK_=>?_|refine zGw rfl rfl rfl rfl rfl fun K_ hK_=>?_);simp only [zAz,zDx,zGx,↓reduceIte,reduceCtorEq,Nat.reduceEqDiff,Bool.not_true,Bool.not_false];refine hK_ _ ?_;clear hK_ K_)
  | refine zDv (by decide) ?_
  | ((try first|refine zKy rfl rfl rfl ?_|refine zJz rfl rfl ?_|refine zKx rfl rfl rfl ?_|refine zIw rfl rfl ?_);(refine zIv fun Q_ hQ_=>?_;simp (disch:=first|omega|(simp only [List.length_cons,List.length_nil,List.length_append];omega)) only [bb,bp,zLz,↓reduceIte,reduceCtorEq,Nat.reduceEqDiff,Nat.reduceLT,Nat.reduceLeDiff,Nat.reduceAdd,Nat.reduceMul,Nat.reduceSub,Nat.reduceBEq,Int.reduceToNat,cond_true,cond_false,eq_self,beq_self_eq_true,g8,b4',s4,zFw wf,zGy wf,zBw wf,zFx wf,zAy wf,zAx,tEvD27,zIx,zIy,zIz,zHv,zFv,zAw wf];first|(refine zCw (Q:=Q_) (fun hp_=>?_) (fun hp_=>?_) <;> first|(exfalso;omega)|(refine hQ_ _ _ ?_;clear hQ_ Q_))|(refine zBx (Q:=Q_) (fun hp_=>?_) (fun hp_=>?_) <;> first|(exfalso;omega)|(refine hQ_ _ _ ?_;clear hQ_ Q_))|(refine hQ_ _ _ ?_;clear hQ_ Q_)))
  | (refine zHx fun K_ hK_=>?_;simp (disch:=omega) only [zGz,zAz,zHw,↓reduceIte,reduceCtorEq,Nat.reduceEqDiff,Nat.reduceLT];refine hK_ _ ?_;clear hK_ K_)))
            have hBl:((B.set 3 (.cells (zBv [ii (i:Int)]) 3)).set 4 (.cells (zBv [ii x.f,ii x.t,ii x.s,ii x.o,ii x.b,ii x.r]) 37)).length=B.length:=by rw [List.length_set,List.length_set]
            generalize hB2:(B.set 3 (.cells (zBv [ii (i:Int)]) 3)).set 4 (.cells (zBv [ii x.f,ii x.t,ii x.s,ii x.o,ii x.b,ii x.r]) 37)=B2 at *
            have hset2 : ∀ R o,(B2++R).set (B.length+6) o=B2++R.set 6 o:=fun R o=>by rw [← hBl,zWy]
            refine yldB_exit_X wf (k:=B.length+6) (by rw [← hBl,zXx];rfl) ho' fun o2 ho2=>?_
            simp only [hset2,List.set_cons_succ,List.set_cons_zero]
            refine ⟨B2++[.cells (zBv [ii (i:Int)]) 3,.cells (zBv [ls[i].a,ls[i].b]) 67,.cells (zBv [ii T.sp,ii T.lo,ii T.we,ii T.al,ii T.f0,ii T.f1,ii T.t0,ii T.t1,ii T.s0,ii T.s1,ii T.o0,ii T.o1,ii T.b0,ii T.b1,ii T.r0,ii T.r1,lv]) 76,.cells (zBv [.bool true]) 4,.cells (zBv [ii xo.f,ii xo.t,ii xo.s,ii xo.o,ii xo.b,ii xo.r]) 37,.dfr,o2],[.cells (zBv [ii x.f,ii x.t,ii x.s,ii x.o,ii x.b,ii x.r]) 37],_,by simp only [List.append_assoc,List.cons_append,List.nil_append];rfl,by omega,?_,.inr ⟨by first|rfl|trivial,by simp [hBl],oo,q,o2,hq,by rw [hG];assumption,⟨_,_,_,_,_,_,_,ho2⟩,by rw [hxo,hxx,hB2]⟩⟩
            simp only [List.length_append,List.length_cons,List.length_nil]
            omega
          · refine yldB_X wf (k:=B.length+6) (by rw [zXx];rfl) ho' ?_
            simp only [zWy,List.set_cons_succ,List.set_cons_zero]
            rw [← ho]
            refine ⟨B++[.cells (zBv [ii (i:Int)]) 3,.cells (zBv [ls[i].a,ls[i].b]) 67,.cells (zBv [ii T.sp,ii T.lo,ii T.we,ii T.al,ii T.f0,ii T.f1,ii T.t0,ii T.t1,ii T.s0,ii T.s1,ii T.o0,ii T.o1,ii T.b0,ii T.b1,ii T.r0,ii T.r1,lv]) 76,.cells (zBv [.bool true]) 4,.cells (zBv [ii xo.f,ii xo.t,ii xo.s,ii xo.o,ii xo.b,ii xo.r]) 37,.dfr,o],[.cells (zBv [ii x.f,ii x.t,ii x.s,ii x.o,ii x.b,ii x.r]) 37],_,by simp only [List.append_assoc,List.cons_append,List.nil_append];rfl,by omega,?_,.inl ⟨by first|rfl|trivial,oo,by rw [hxo],fun q' hq'=>?_⟩⟩
            · simp only [List.length_append,List.length_cons,List.length_nil]
              omega
            · by_cases e:q'=q
              · rw [e,hG];assumption
              · exact hnq q' (by omega)
        · rintro v h' ⟨L,J,w',rfl,hw3,hw4,⟨oo,rfl,hnq⟩|⟨_,oo,q,o2,hq,hit,⟨g',n',tm',ps',sg',bd',dd',ho2⟩,rfl⟩⟩
          · have hw4':w'≤h.clock+(B.length+7):=by simpa using hw4
            simp only [List.append_assoc,List.cons_append,List.nil_append]
            refine xGw wf (k:=B.length+6) (by rw [zXx];rfl) ho (by decide) fun o' ho'=>?_
            simp only [zWy,List.set_cons_succ,List.set_cons_zero]
            (repeat' (first
  | (with_reducible first|refine zJw ?_|refine zHz ?_|refine zFz ?_|refine zEv ?_|refine zFy ?_|refine zJv ?_|refine zHy ?_|refine zCz ?_|refine zDw ?_|refine zCy ?_|refine zCv ?_|refine zEx ?_|refine zDz ?_|refine zCx ?_|refine zBy ?_|refine zEz ?_|refine zEy ?_|refine zAv ?_|refine zBz ?_)
  | refine zDy ?_|refine zEw rfl ?_|refine zJy ?_|refine zJx ?_
  | ((first|refine zGv rfl rfl rfl rfl rfl fun K_ hK_=>?_|refine zGw rfl rfl rfl rfl rfl fun K_ hK_=>?_);simp only [zAz,zDx,zGx,↓reduceIte,reduceCtorEq,Nat.reduceEqDiff,Bool.not_true,Bool.not_false];refine hK_ _ ?_;clear hK_ K_)
  | refine zDv (by decide) ?_
  | ((try first|refine zKy rfl rfl rfl ?_|refine zJz rfl rfl ?_|refine zKx rfl rfl rfl ?_|refine zIw rfl rfl ?_);(refine zIv fun Q_ hQ_=>?_;simp (disch:=first|omega|(simp only [List.length_cons,List.length_nil,List.length_append];omega)) only [bb,bp,zLz,↓reduceIte,reduceCtorEq,Nat.reduceEqDiff,Nat.reduceLT,Nat.reduceLeDiff,Nat.reduceAdd,Nat.reduceMul,Nat.reduceSub,Nat.reduceBEq,Int.reduceToNat,cond_true,cond_false,eq_self,beq_self_eq_true,g22,zFw wf,zGy wf,zBw wf,zFx wf,zAy wf,zAx,tEvD27,zIx,zIy,zIz,zHv,zFv,zAw wf];first|(refine zCw (Q:=Q_) (fun hp_=>?_) (fun hp_=>?_) <;> first|(exfalso;omega)|(refine hQ_ _ _ ?_;clear hQ_ Q_))|(refine zBx (Q:=Q_) (fun hp_=>?_) (fun hp_=>?_) <;> first|(exfalso;omega)|(refine hQ_ _ _ ?_;clear hQ_ Q_))|(refine hQ_ _ _ ?_;clear hQ_ Q_)))
  | (refine zHx fun K_ hK_=>?_;simp (disch:=omega) only [zGz,zAz,zHw,↓reduceIte,reduceCtorEq,Nat.reduceEqDiff,Nat.reduceLT];refine hK_ _ ?_;clear hK_ K_)))
            refine zLw (i+1) (by omega) ⟨hlt,fun j hj hji q hq=>?_,by simp only [zAz,↓reduceIte,reduceCtorEq,Nat.reduceEqDiff];exact g1,by simp only [zAz,↓reduceIte,reduceCtorEq,Nat.reduceEqDiff];exact g2,by simp only [zAz,↓reduceIte,reduceCtorEq,Nat.reduceEqDiff];exact g5,by simp only [zAz,↓reduceIte,reduceCtorEq,Nat.reduceEqDiff];exact g6,by simp only [zAz,↓reduceIte,reduceCtorEq,Nat.reduceEqDiff];exact g7,by simp only [zAz,↓reduceIte,reduceCtorEq,Nat.reduceEqDiff];exact g8,by simp only [zAz,↓reduceIte,reduceCtorEq,Nat.reduceEqDiff];exact g20,by simp only [zAz,↓reduceIte,reduceCtorEq,Nat.reduceEqDiff];exact g21,by simp only [zAz,↓reduceIte,reduceCtorEq,Nat.reduceEqDiff];rfl,(B.length+5) :: ks,_,_,rfl,?_,?_,b0 _,b1 _,b2 _,b3 _,b4 _,rfl,by omega,?_⟩
            · by_cases e:j=i
              · subst e;exact hnq q hq
              · exact hno j hj (by omega) q hq
            · rw [List.nodup_cons]
              refine ⟨fun hm=>?_,hnd⟩
              have:=zSw (hks _ hm)
              omega
            · intro k' hk'
              rcases List.mem_cons.1 hk' with rfl|hk'
              · rw [zXx];rfl
              · exact get (hks k' hk') _
            · simp only [List.length_append,List.length_cons]
              omega
          · have hBl:((B.set 3 (.cells (zBv [ii (i:Int)]) 3)).set 4 (.cells (zBv (trC (cand T true (T.o0+(q:Int))))) 37)).length=B.length:=by rw [List.length_set,List.length_set]
            have e3:((B.set 3 (.cells (zBv [ii (i:Int)]) 3)).set 4 (.cells (zBv (trC (cand T true (T.o0+(q:Int))))) 37))[3]? = some (.cells (zBv [ii (i:Int)]) 3):=by rw [List.getElem?_set_ne (by omega),List.getElem?_set_self (by omega)]
            have e4:((B.set 3 (.cells (zBv [ii (i:Int)]) 3)).set 4 (.cells (zBv (trC (cand T true (T.o0+(q:Int))))) 37))[4]? = some (.cells (zBv (trC (cand T true (T.o0+(q:Int))))) 37):=by rw [List.getElem?_set_self (by rw [List.length_set];omega)]
            have e1:((B.set 3 (.cells (zBv [ii (i:Int)]) 3)).set 4 (.cells (zBv (trC (cand T true (T.o0+(q:Int))))) 37))[1]? = some (.cells (zBv [ii 0,ii 0,ii 0,ii 0,ii 0,ii 0]) 37):=by rw [List.getElem?_set_ne (by omega),List.getElem?_set_ne (by omega)];exact hb1
            have ek : ∀ k' ∈ ks,((B.set 3 (.cells (zBv [ii (i:Int)]) 3)).set 4 (.cells (zBv (trC (cand T true (T.o0+(q:Int))))) 37))[k']? = some .dfr:=fun k' hk'=>by
              have h1:=hks k' hk'
              have n3:3≠k':=fun e=>by rw [← e,hb3] at h1;cases h1
              have n4:4≠k':=fun e=>by rw [← e,hb4] at h1;cases h1
              rw [List.getElem?_set_ne n4,List.getElem?_set_ne n3];exact h1
            generalize (B.set 3 (.cells (zBv [ii (i:Int)]) 3)).set 4 (.cells (zBv (trC (cand T true (T.o0+(q:Int))))) 37)=B2 at *
            have get2 : ∀ {k:Nat} {o:AO},B2[k]? = some o → ∀ J,(B2++J)[k]? = some o:=fun {k o} hq J=>by rw [List.getElem?_append_left (zSw hq)];exact hq
            have c3:=get2 e3
            have c4:=get2 e4
            have c1:=get2 e1
            have hset2 : ∀ R o,(B2++R).set (B.length+6) o=B2++R.set 6 o:=fun R o=>by rw [← hBl,zWy]
            have hset1 : ∀ R o,(B2++R).set 1 o=B2.set 1 o++R:=fun R o=>List.set_append_left _ _ (by omega)
            have hw4':w'≤h.clock+(B.length+7):=by simpa [hBl] using hw4
            simp only [List.append_assoc,List.cons_append,List.nil_append]
            refine xGw wf (k:=B.length+6) (by rw [← hBl,zXx];rfl) ho2 (by decide) fun o' ho'=>?_
            simp only [hset2,List.set_cons_succ,List.set_cons_zero]
            unfold trC at c4
            unfold trC
            generalize hx:cand T true (T.o0+(q:Int))=x at *
            (repeat' (first
  | (with_reducible first|refine zJw ?_|refine zHz ?_|refine zFz ?_|refine zEv ?_|refine zFy ?_|refine zJv ?_|refine zHy ?_|refine zCz ?_|refine zDw ?_|refine zCy ?_|refine zCv ?_|refine zEx ?_|refine zDz ?_|refine zCx ?_|refine zBy ?_|refine zEz ?_|refine zEy ?_|refine zAv ?_|refine zBz ?_)
  | refine zDy ?_|refine zEw rfl ?_|refine zJy ?_|refine zJx ?_
  | ((first|refine zGv rfl rfl rfl rfl rfl fun K_ hK_=>?_|refine zGw rfl rfl rfl rfl rfl fun K_ hK_=>?_);simp only [zAz,zDx,zGx,↓reduceIte,reduceCtorEq,Nat.reduceEqDiff,Bool.not_true,Bool.not_false];refine hK_ _ ?_;clear hK_ K_)
  | refine zDv (by decide) ?_
  | ((try first|refine zKy rfl rfl rfl ?_|refine zJz rfl rfl ?_|refine zKx rfl rfl rfl ?_|refine zIw rfl rfl ?_);(refine zIv fun Q_ hQ_=>?_;simp (disch:=first|omega|(simp only [List.length_cons,List.length_nil,List.length_append];omega)) only [bb,bp,zLz,↓reduceIte,reduceCtorEq,Nat.reduceEqDiff,Nat.reduceLT,Nat.reduceLeDiff,Nat.reduceAdd,Nat.reduceMul,Nat.reduceSub,Nat.reduceBEq,Int.reduceToNat,cond_true,cond_false,eq_self,beq_self_eq_true,g5,g7,g8,c3,c4,c1,zFw wf,zGy wf,zBw wf,zFx wf,zAy wf,zAx,tEvD27,zIx,zIy,zIz,zHv,zFv,zAw wf];first|(refine zCw (Q:=Q_) (fun hp_=>?_) (fun hp_=>?_) <;> first|(exfalso;omega)|(refine hQ_ _ _ ?_;clear hQ_ Q_))|(refine zBx (Q:=Q_) (fun hp_=>?_) (fun hp_=>?_) <;> first|(exfalso;omega)|(refine hQ_ _ _ ?_;clear hQ_ Q_))|(refine hQ_ _ _ ?_;clear hQ_ Q_)))
  | (refine zHx fun K_ hK_=>?_;simp (disch:=omega) only [zGz,zAz,zHw,↓reduceIte,reduceCtorEq,Nat.reduceEqDiff,Nat.reduceLT];refine hK_ _ ?_;clear hK_ K_)))
            refine zLx [.no,.no,.no,.full] (by kernel_rfl) ?_
            (repeat' (first
  | (with_reducible first|refine zJw ?_|refine zHz ?_|refine zFz ?_|refine zEv ?_|refine zFy ?_|refine zJv ?_|refine zHy ?_|refine zCz ?_|refine zDw ?_|refine zCy ?_|refine zCv ?_|refine zEx ?_|refine zDz ?_|refine zCx ?_|refine zBy ?_|refine zEz ?_|refine zEy ?_|refine zAv ?_|refine zBz ?_)
  | refine zDy ?_|refine zEw rfl ?_|refine zJy ?_|refine zJx ?_
  | ((first|refine zGv rfl rfl rfl rfl rfl fun K_ hK_=>?_|refine zGw rfl rfl rfl rfl rfl fun K_ hK_=>?_);simp only [zAz,zDx,zGx,↓reduceIte,reduceCtorEq,Nat.reduceEqDiff,Bool.not_true,Bool.not_false];refine hK_ _ ?_;clear hK_ K_)
  | refine zDv (by decide) ?_
  | ((try first|refine zKy rfl rfl rfl ?_|refine zJz rfl rfl ?_|refine zKx rfl rfl rfl ?_|refine zIw rfl rfl ?_);(refine zIv fun Q_ hQ_=>?_;simp (disch:=first|omega|(simp only [List.length_cons,List.length_nil,List.length_append];omega)) only [bb,bp,zLz,↓reduceIte,reduceCtorEq,Nat.reduceEqDiff,Nat.reduceLT,Nat.reduceLeDiff,Nat.reduceAdd,Nat.reduceMul,Nat.reduceSub,Nat.reduceBEq,Int.reduceToNat,cond_true,cond_false,eq_self,beq_self_eq_true,g5,g7,g8,c3,c4,c1,hset1,zFw wf,zGy wf,zBw wf,zFx wf,zAy wf,zAx,tEvD27,zIx,zIy,zIz,zHv,zFv,zAw wf];first|(refine zCw (Q:=Q_) (fun hp_=>?_) (fun hp_=>?_) <;> first|(exfalso;omega)|(refine hQ_ _ _ ?_;clear hQ_ Q_))|(refine zBx (Q:=Q_) (fun hp_=>?_) (fun hp_=>?_) <;> first|(exfalso;omega)|(refine hQ_ _ _ ?_;clear hQ_ Q_))|(refine hQ_ _ _ ?_;clear hQ_ Q_)))
  | (refine zHx fun K_ hK_=>?_;simp (disch:=omega) only [zGz,zAz,zHw,↓reduceIte,reduceCtorEq,Nat.reduceEqDiff,Nat.reduceLT];refine hK_ _ ?_;clear hK_ K_)))
            have hBs:(B2.set 1 (.cells (zBv [ii x.f,ii x.t,ii x.s,ii x.o,ii x.b,ii x.r]) 37)).length=B.length:=by rw [List.length_set,hBl]
            have hks2 : ∀ k' ∈ (B.length+5) :: ks,(B2.set 1 (.cells (zBv [ii x.f,ii x.t,ii x.s,ii x.o,ii x.b,ii x.r]) 37) ++ .cells (zBv [ii (i:Int)]) 3 :: .cells (zBv [ls[i].a,ls[i].b]) 67 :: .cells (zBv [ii T.sp,ii T.lo,ii T.we,ii T.al,ii T.f0,ii T.f1,ii T.t0,ii T.t1,ii T.s0,ii T.s1,ii T.o0,ii T.o1,ii T.b0,ii T.b1,ii T.r0,ii T.r1,lv]) 76 :: .cells (zBv [.bool true]) 4 :: .cells (zBv [ii (cand T true oo).f,ii (cand T true oo).t,ii (cand T true oo).s,ii (cand T true oo).o,ii (cand T true oo).b,ii (cand T true oo).r]) 37 :: .dfr :: o' :: J)[k']? = some .dfr:=fun k' hk'=>by
              rcases List.mem_cons.1 hk' with rfl|hk'
              · rw [← hBs,zXx];rfl
              · have h1:=ek k' hk'
                have n1:1≠k':=fun e=>by rw [← e,e1] at h1;cases h1
                rw [List.getElem?_append_left (by rw [List.length_set];exact zSw h1),List.getElem?_set_ne n1];exact h1
            obtain ⟨L2,w2,ht,hl2,hwa,hwb,hkeep⟩:=xIz wf (Nat.le_refl h.clock) ((B.length+5) :: ks) _ (min (min (h.clock+(B.length+6)) w') (min (h.clock+1) (h.clock+(B2.length+(J.length+1+1+1+1+1+1+1))))) (by
              rw [List.nodup_cons]
              refine ⟨fun hm=>?_,hnd⟩
              have:=zSw (hks _ hm)
              omega) hks2 (by omega)
            have hc5:=hkeep 37 1 (zBv [ii x.f,ii x.t,ii x.s,ii x.o,ii x.b,ii x.r]) (by rw [List.getElem?_append_left (by rw [hBs];omega),List.getElem?_set_self (by omega)])
            refine zKz _ _ ht (rettc0 (x:=.agg [ii x.f,ii x.t,ii x.s,ii x.o,ii x.b,ii x.r]) (by decide) (by decide) (by simp (disch:=first|omega|(simp only [List.length_cons,List.length_nil,List.length_append];omega)) only [bb,bp,zLz,↓reduceIte,reduceCtorEq,Nat.reduceEqDiff,Nat.reduceLT,Nat.reduceLeDiff,Nat.reduceAdd,Nat.reduceMul,Nat.reduceSub,Nat.reduceBEq,Int.reduceToNat,cond_true,cond_false,eq_self,beq_self_eq_true,g5,hc5,zBw wf,tEvD27,zIx,zIy,zIz,zHv,zFv,zAw wf])) ?_
            simp only [zAz,↓reduceIte,reduceCtorEq,Nat.reduceEqDiff]
            refine zKw rfl (by omega) ?_
            exact ⟨i,q,hlt,hq,hit,by rw [hx],rfl⟩
      · exfalso
        obtain ⟨j,hj,q,hq,e⟩:=hex
        exact hno j hj (by omega) q hq e
    · exact ⟨Nat.zero_le _,fun j _ hj=>absurd hj (Nat.not_lt_zero j),by simp only [zAz,↓reduceIte,reduceCtorEq,Nat.reduceEqDiff],by simp only [zAz,↓reduceIte,reduceCtorEq,Nat.reduceEqDiff],by simp only [zAz,↓reduceIte,reduceCtorEq,Nat.reduceEqDiff],by simp only [zAz,↓reduceIte,reduceCtorEq,Nat.reduceEqDiff],by simp only [zAz,↓reduceIte,reduceCtorEq,Nat.reduceEqDiff],by simp only [zAz,↓reduceIte,reduceCtorEq,Nat.reduceEqDiff],by simp only [zAz,↓reduceIte,reduceCtorEq,Nat.reduceEqDiff],by simp only [zAz,↓reduceIte,reduceCtorEq,Nat.reduceEqDiff],by simp only [zAz,↓reduceIte,reduceCtorEq,Nat.reduceEqDiff];rfl,[],_,_,rfl,List.nodup_nil,fun k hk=>(by cases hk),rfl,rfl,rfl,rfl,rfl,rfl,Nat.le_refl _,Nat.le_add_right _ _⟩
theorem fine_of {T:Te} {ls:List Ln} (he:reckErr T ls=0):okT T∧okLs ls∧rk T ls:=by
  have k:okT T:=by
    by_cases k:okT T
    · exact k
    · rw [reck1 k] at he;cases he
  have hz:linesErr ls=0:=by
    by_cases hz:linesErr ls=0
    · exact hz
    · rw [reck2 k hz] at he;exact absurd he hz
  refine ⟨k,yZy.1 hz,?_⟩
  by_cases q:rk T ls
  · exact q
  · rw [reck3 k hz q] at he;cases he
theorem EndOK (T:Te) (s:AV) (ls:List Ln) (he:reckErr T ls=0) (high:Bool) (h:H) (x:LinesR h s ls) :
    ∃ i q,∃ hi:i<ls.length,q<cnt T∧cg T ls[i].re ls[i].cf high q=spanV T ls high∧(om Try.prog KK).call (.fn 29 [.agg [ii T.sp,ii T.lo,ii T.we,ii T.al,ii T.f0,ii T.f1,ii T.t0,ii T.t1,ii T.s0,ii T.s1,ii T.o0,ii T.o1,ii T.b0,ii T.b1,ii T.r0,ii T.r1],s,.bool high]) h = .ok (.tup [ii (i:Int),.agg (trC (cand T high (T.o0+(q:Int)))),ii 0]) h:=by
  have wf:=x.wf
  obtain ⟨k,hk,hr⟩:=fine_of he
  obtain ⟨M,lv,hc,hcap,hlr⟩:=reckoned T s ls k hk hr h x [.cells (zBv [ii T.sp,ii T.lo,ii T.we,ii T.al,ii T.f0,ii T.f1,ii T.t0,ii T.t1,ii T.s0,ii T.s1,ii T.o0,ii T.o1,ii T.b0,ii T.b1,ii T.r0,ii T.r1]) 35,.cells (zBv [ii 0,ii 0,ii 0,ii 0,ii 0,ii 0]) 37] h.clock (by omega)
  simp only [List.cons_append,List.nil_append,List.length_cons,List.length_nil] at hc hlr
  obtain ⟨f1,f2⟩:=(hlr [] h.clock (by omega)).flat
  obtain ⟨v,h2,hf,i,q,hi,hq,hit,rfl,rfl⟩:=found T k lv hcap ls hk hr high _ (hlr [.cells (zBv [ii T.sp,ii T.lo,ii T.we,ii T.al,ii T.f0,ii T.f1,ii T.t0,ii T.t1,ii T.s0,ii T.s1,ii T.o0,ii T.o1,ii T.b0,ii T.b1,ii T.r0,ii T.r1,lv]) 76] h.clock (by simp only [List.length_cons,List.length_nil];omega))
  refine ⟨i,q,hi,hq,hit,?_⟩
  refine zXz (zLv (fn:=Try.f29) Try.func29 rfl rfl rfl rfl rfl ?_)
  simp only [zLz]
  unfold trC at hf ⊢
  generalize cand T high (T.o0+(q:Int))=y at *
  (repeat' (first
  | (with_reducible first|refine zJw ?_|refine zHz ?_|refine zFz ?_|refine zEv ?_|refine zFy ?_|refine zJv ?_|refine zHy ?_|refine zCz ?_|refine zDw ?_|refine zCy ?_|refine zCv ?_|refine zEx ?_|refine zDz ?_|refine zCx ?_|refine zBy ?_|refine zEz ?_|refine zEy ?_|refine zAv ?_|refine zBz ?_)
  | refine zDy ?_|refine zEw rfl ?_|refine zJy ?_|refine zJx ?_
  | ((first|refine zGv rfl rfl rfl rfl rfl fun K_ hK_=>?_|refine zGw rfl rfl rfl rfl rfl fun K_ hK_=>?_);simp only [zAz,zDx,zGx,↓reduceIte,reduceCtorEq,Nat.reduceEqDiff,Bool.not_true,Bool.not_false];refine hK_ _ ?_;clear hK_ K_)
  | refine zDv (by decide) ?_
  | ((try first|refine zKy rfl rfl rfl ?_|refine zJz rfl rfl ?_|refine zKx rfl rfl rfl ?_|refine zIw rfl rfl ?_);(refine zIv fun Q_ hQ_=>?_;simp (disch:=first|omega|(simp only [List.length_cons,List.length_nil,List.length_append];omega)) only [bb,bp,zLz,↓reduceIte,reduceCtorEq,Nat.reduceEqDiff,Nat.reduceLT,Nat.reduceLeDiff,Nat.reduceAdd,Nat.reduceMul,Nat.reduceSub,Nat.reduceBEq,Int.reduceToNat,cond_true,cond_false,eq_self,beq_self_eq_true,zFw wf,zGy wf,zBw wf,zFx wf,zAy wf,zAx,tEvD27,zIx,zIy,zIz,zHv,zFv,zAw wf];first|(refine zCw (Q:=Q_) (fun hp_=>?_) (fun hp_=>?_) <;> first|(exfalso;omega)|(refine hQ_ _ _ ?_;clear hQ_ Q_))|(refine zBx (Q:=Q_) (fun hp_=>?_) (fun hp_=>?_) <;> first|(exfalso;omega)|(refine hQ_ _ _ ?_;clear hQ_ Q_))|(refine hQ_ _ _ ?_;clear hQ_ Q_)|(refine zMz (hc) ?_;refine hQ_ _ _ ?_;clear hQ_ Q_)))
  | (refine zHx fun K_ hK_=>?_;simp (disch:=omega) only [zGz,zAz,zHw,↓reduceIte,reduceCtorEq,Nat.reduceEqDiff,Nat.reduceLT];refine hK_ _ ?_;clear hK_ K_)))
  (repeat' (first
  | (with_reducible first|refine zJw ?_|refine zHz ?_|refine zFz ?_|refine zEv ?_|refine zFy ?_|refine zJv ?_|refine zHy ?_|refine zCz ?_|refine zDw ?_|refine zCy ?_|refine zCv ?_|refine zEx ?_|refine zDz ?_|refine zCx ?_|refine zBy ?_|refine zEz ?_|refine zEy ?_|refine zAv ?_|refine zBz ?_)
  | refine zDy ?_|refine zEw rfl ?_|refine zJy ?_|refine zJx ?_
  | ((first|refine zGv rfl rfl rfl rfl rfl fun K_ hK_=>?_|refine zGw rfl rfl rfl rfl rfl fun K_ hK_=>?_);simp only [zAz,zDx,zGx,↓reduceIte,reduceCtorEq,Nat.reduceEqDiff,Bool.not_true,Bool.not_false];refine hK_ _ ?_;clear hK_ K_)
  | refine zDv (by decide) ?_
  | ((try first|refine zKy rfl rfl rfl ?_|refine zJz rfl rfl ?_|refine zKx rfl rfl rfl ?_|refine zIw rfl rfl ?_);(refine zIv fun Q_ hQ_=>?_;simp (disch:=first|omega|(simp only [List.length_cons,List.length_nil,List.length_append];omega)) only [bb,bp,zLz,↓reduceIte,reduceCtorEq,Nat.reduceEqDiff,Nat.reduceLT,Nat.reduceLeDiff,Nat.reduceAdd,Nat.reduceMul,Nat.reduceSub,Nat.reduceBEq,Int.reduceToNat,cond_true,cond_false,eq_self,beq_self_eq_true,f1,f2,zFw wf,zGy wf,zBw wf,zFx wf,zAy wf,zAx,tEvD27,zIx,zIy,zIz,zHv,zFv,zAw wf];first|(refine zCw (Q:=Q_) (fun hp_=>?_) (fun hp_=>?_) <;> first|(exfalso;omega)|(refine hQ_ _ _ ?_;clear hQ_ Q_))|(refine zBx (Q:=Q_) (fun hp_=>?_) (fun hp_=>?_) <;> first|(exfalso;omega)|(refine hQ_ _ _ ?_;clear hQ_ Q_))|(refine hQ_ _ _ ?_;clear hQ_ Q_)|(refine zMz (hf) ?_;refine hQ_ _ _ ?_;clear hQ_ Q_)))
  | (refine zHx fun K_ hK_=>?_;simp (disch:=omega) only [zGz,zAz,zHw,↓reduceIte,reduceCtorEq,Nat.reduceEqDiff,Nat.reduceLT];refine hK_ _ ?_;clear hK_ K_)))
  refine zLx [.no,.full,.no,.full,.full] (by kernel_rfl) ?_
  (repeat' (first
  | (with_reducible first|refine zJw ?_|refine zHz ?_|refine zFz ?_|refine zEv ?_|refine zFy ?_|refine zJv ?_|refine zHy ?_|refine zCz ?_|refine zDw ?_|refine zCy ?_|refine zCv ?_|refine zEx ?_|refine zDz ?_|refine zCx ?_|refine zBy ?_|refine zEz ?_|refine zEy ?_|refine zAv ?_|refine zBz ?_)
  | refine zDy ?_|refine zEw rfl ?_|refine zJy ?_|refine zJx ?_
  | ((first|refine zGv rfl rfl rfl rfl rfl fun K_ hK_=>?_|refine zGw rfl rfl rfl rfl rfl fun K_ hK_=>?_);simp only [zAz,zDx,zGx,↓reduceIte,reduceCtorEq,Nat.reduceEqDiff,Bool.not_true,Bool.not_false];refine hK_ _ ?_;clear hK_ K_)
  | refine zDv (by decide) ?_
  | ((try first|refine zKy rfl rfl rfl ?_|refine zJz rfl rfl ?_|refine zKx rfl rfl rfl ?_|refine zIw rfl rfl ?_);(refine zIv fun Q_ hQ_=>?_;simp (disch:=first|omega|(simp only [List.length_cons,List.length_nil,List.length_append];omega)) only [bb,bp,zLz,↓reduceIte,reduceCtorEq,Nat.reduceEqDiff,Nat.reduceLT,Nat.reduceLeDiff,Nat.reduceAdd,Nat.reduceMul,Nat.reduceSub,Nat.reduceBEq,Int.reduceToNat,cond_true,cond_false,eq_self,beq_self_eq_true,zFw wf,zGy wf,zBw wf,zFx wf,zAy wf,zAx,tEvD27,zIx,zIy,zIz,zHv,zFv,zAw wf];first|(refine zCw (Q:=Q_) (fun hp_=>?_) (fun hp_=>?_) <;> first|(exfalso;omega)|(refine hQ_ _ _ ?_;clear hQ_ Q_))|(refine zBx (Q:=Q_) (fun hp_=>?_) (fun hp_=>?_) <;> first|(exfalso;omega)|(refine hQ_ _ _ ?_;clear hQ_ Q_))|(refine hQ_ _ _ ?_;clear hQ_ Q_)))
  | (refine zHx fun K_ hK_=>?_;simp (disch:=omega) only [zGz,zAz,zHw,↓reduceIte,reduceCtorEq,Nat.reduceEqDiff,Nat.reduceLT];refine hK_ _ ?_;clear hK_ K_)))
  refine zKz _ _ rfl (rettc1 (by decide) (by decide) (by decide) (by simp (disch:=first|omega|(simp only [List.length_cons,List.length_nil,List.length_append];omega)) only [bb,bp,zLz,↓reduceIte,reduceCtorEq,Nat.reduceEqDiff,Nat.reduceLT,Nat.reduceLeDiff,Nat.reduceAdd,Nat.reduceMul,Nat.reduceSub,Nat.reduceBEq,Int.reduceToNat,cond_true,cond_false,eq_self,beq_self_eq_true,zBw wf,tEvD27,zIx,zIy,zIz,zHv,zFv,zAw wf];rfl)) ?_
  refine zKw rfl (by omega) ?_
  exact ⟨rfl,rfl⟩
end Go.Proofs.Ythaleckfgcgegaa
end

section
namespace Go.Proofs.Ythaleckfgcgegaa
open Go.Ev
set_option maxRecDepth 100000
set_option linter.unusedSimpArgs false
set_option linter.unusedVariables false
set_option maxHeartbeats 2000000
end Go.Proofs.Ythaleckfgcgegaa
end

section
namespace Go.Proofs.Ythaleckfgcgegaa
open Go.Ev
set_option maxRecDepth 100000
set_option linter.unusedSimpArgs false
set_option linter.unusedVariables false
set_option maxHeartbeats 2000000
theorem Fine.e {T:Te} {ls:List Ln} (f:Fine T ls):reckErr T ls=0:=reck4 f.k (yZy.2 f.l) f.r
theorem shipOK {T:Te} {ls:List Ln} (f:Fine T ls) {l:Ln} (hl:l ∈ ls) {x:Tr} (kx:isT T x):shipErr T l.re l.cf x=0∧shipVal T l.re l.cf x=coef T l.re l.cf x:=
  ship5 f.k (xDy.2 (f.l.ok _ hl)) kx (xDw f.k (f.r _ hl) kx)
theorem LineR.alone {h:H} {a b:AV} {re cf:List Int} (x:LineR h a b re cf) {L:List AO} {w k e:Nat} (hw:w≤h.clock+L.length) (hk:L[k]? = some (.cells (zBv [a,b]) e)):LinesR (X h L w) (.sl (nx h k) 0 1 (some 1) 2) [⟨a,b,re,cf⟩]:=
  ⟨x.wf.X hw,Sl.new x.wf rfl hk,fun l hl=>by rw [List.mem_singleton.1 hl];exact x.up L w hw⟩
end Go.Proofs.Ythaleckfgcgegaa
end

section
namespace Go.Proofs.Ythaleckfgcgegaa
open Go.Ev
set_option maxRecDepth 100000
set_option linter.unusedSimpArgs false
set_option linter.unusedVariables false
set_option maxHeartbeats 2000000
end Go.Proofs.Ythaleckfgcgegaa
end
