/- The statement WavePeriod of layer 5: a register with a last tap comes back to its start after at least 1 and at most 2^n - 1 bits, and not before; the bits repeat from there on, and the period from each state of them is the same; without a last tap it is an error, for all registers of at most 10 taps; no condition. -/
import Derived.Test.YtmincoafjnnkpaawvM9
import Derived.Test.YtmincoafjnnkpaaRows
import Derived.WalkKit
import Derived.ProofKit
import Derived.OpenShut
set_option linter.all false
section
namespace Go.Proofs.Ytmincoafjnnkpaa
open Go.Ev
set_option maxRecDepth 100000
set_option linter.unusedSimpArgs false
set_option linter.unusedVariables false
set_option maxHeartbeats 2000000
theorem tEvZ37 :type_of% (And.intro (And.intro (And.intro (And.intro (And.intro (And.intro (And.intro (@yQx) (@yQy)) (And.intro (@yQz) (@yPv))) (And.intro (And.intro (@yPw) (@yPx)) (And.intro (@ia_2) (And.intro (@ia_3) (@ia_4))))) (And.intro (And.intro (And.intro (@ia_5) (@yPy)) (And.intro (@yPz) (@yOv))) (And.intro (And.intro (@yOw) (@yOx)) (And.intro (@yOy) (And.intro (@zRv) (@yOz)))))) (And.intro (And.intro (And.intro (And.intro (@yNv) (@yNw)) (And.intro (@yNx) (@yNy))) (And.intro (And.intro (@yNz) (@yMv)) (And.intro (@yMw) (And.intro (@yMx) (@sz_2))))) (And.intro (And.intro (And.intro (@sz_3) (@sz_4)) (And.intro (@sz_5) (And.intro (@zQv) (@zYw)))) (And.intro (And.intro (@zYx) (@zYy)) (And.intro (@zYz) (And.intro (@zXv) (@zRx))))))) (And.intro (And.intro (And.intro (And.intro (And.intro (@zXw) (@zXx)) (And.intro (@zXy) (@zQx))) (And.intro (And.intro (@zXz) (@zWv)) (And.intro (@zWw) (And.intro (@zWx) (@zWy))))) (And.intro (And.intro (And.intro (@ze_2) (@ze_3)) (And.intro (@ze_4) (And.intro (@ze_5) (@zWz)))) (And.intro (And.intro (@zVv) (@zVw)) (And.intro (@zVx) (And.intro (@zVy) (@zVz)))))) (And.intro (And.intro (And.intro (And.intro (@zUv) (@zUw)) (And.intro (@zUx) (@zUy))) (And.intro (And.intro (@zUz) (@zTv)) (And.intro (@zTw) (And.intro (@zTx) (@zTy))))) (And.intro (And.intro (And.intro (@zOy) (@zOz)) (And.intro (@zNv) (And.intro (@zNw) (@zNx)))) (And.intro (And.intro (@zNy) (@zNz)) (And.intro (@zMv) (And.intro (@zMw) (@yMy)))))))) (And.intro (And.intro (And.intro (And.intro (And.intro (And.intro (@yMz) (@yLv)) (And.intro (@yLw) (@yLx))) (And.intro (And.intro (@yLy) (@yLz)) (And.intro (@yKv) (And.intro (@yKw) (@yKx))))) (And.intro (And.intro (And.intro (@yKy) (@yKz)) (And.intro (@yJv) (@yJw))) (And.intro (And.intro (@yJx) (@yJy)) (And.intro (@yJz) (And.intro (@yIv) (@yIw)))))) (And.intro (And.intro (And.intro (And.intro (@yIx) (@yIy)) (And.intro (@yIz) (@yHv))) (And.intro (And.intro (@yHw) (@yHx)) (And.intro (@yHy) (And.intro (@yHz) (@yGv))))) (And.intro (And.intro (And.intro (@yGw) (@yGx)) (And.intro (@yGy) (And.intro (@yGz) (@yFv)))) (And.intro (And.intro (@yFw) (@yFx)) (And.intro (@yFy) (And.intro (@yFz) (@yEv))))))) (And.intro (And.intro (And.intro (And.intro (And.intro (@yEw) (@yEx)) (And.intro (@yEy) (@yEz))) (And.intro (And.intro (@yDv) (@yDw)) (And.intro (@yDx) (And.intro (@yDy) (@yDz))))) (And.intro (And.intro (And.intro (@yCv) (@yCw)) (And.intro (@yCx) (And.intro (@yCy) (@yCz)))) (And.intro (And.intro (@zSz) (@yBv)) (And.intro (@yBw) (And.intro (@yBx) (@yBy)))))) (And.intro (And.intro (And.intro (And.intro (@yBz) (@yAv)) (And.intro (@yAw) (@yAx))) (And.intro (And.intro (@yAy) (@yAz)) (And.intro (@zZv) (And.intro (@zZw) (@zZx))))) (And.intro (And.intro (And.intro (@zZy) (@zZz)) (And.intro (@zQy) (And.intro (@zSv) (@zSw)))) (And.intro (And.intro (@zQw) (@zSx)) (And.intro (@zRy) (And.intro (@zSy) (@zRw))))))))):=And.intro (And.intro (And.intro (And.intro (And.intro (And.intro (And.intro (@yQx) (@yQy)) (And.intro (@yQz) (@yPv))) (And.intro (And.intro (@yPw) (@yPx)) (And.intro (@ia_2) (And.intro (@ia_3) (@ia_4))))) (And.intro (And.intro (And.intro (@ia_5) (@yPy)) (And.intro (@yPz) (@yOv))) (And.intro (And.intro (@yOw) (@yOx)) (And.intro (@yOy) (And.intro (@zRv) (@yOz)))))) (And.intro (And.intro (And.intro (And.intro (@yNv) (@yNw)) (And.intro (@yNx) (@yNy))) (And.intro (And.intro (@yNz) (@yMv)) (And.intro (@yMw) (And.intro (@yMx) (@sz_2))))) (And.intro (And.intro (And.intro (@sz_3) (@sz_4)) (And.intro (@sz_5) (And.intro (@zQv) (@zYw)))) (And.intro (And.intro (@zYx) (@zYy)) (And.intro (@zYz) (And.intro (@zXv) (@zRx))))))) (And.intro (And.intro (And.intro (And.intro (And.intro (@zXw) (@zXx)) (And.intro (@zXy) (@zQx))) (And.intro (And.intro (@zXz) (@zWv)) (And.intro (@zWw) (And.intro (@zWx) (@zWy))))) (And.intro (And.intro (And.intro (@ze_2) (@ze_3)) (And.intro (@ze_4) (And.intro (@ze_5) (@zWz)))) (And.intro (And.intro (@zVv) (@zVw)) (And.intro (@zVx) (And.intro (@zVy) (@zVz)))))) (And.intro (And.intro (And.intro (And.intro (@zUv) (@zUw)) (And.intro (@zUx) (@zUy))) (And.intro (And.intro (@zUz) (@zTv)) (And.intro (@zTw) (And.intro (@zTx) (@zTy))))) (And.intro (And.intro (And.intro (@zOy) (@zOz)) (And.intro (@zNv) (And.intro (@zNw) (@zNx)))) (And.intro (And.intro (@zNy) (@zNz)) (And.intro (@zMv) (And.intro (@zMw) (@yMy)))))))) (And.intro (And.intro (And.intro (And.intro (And.intro (And.intro (@yMz) (@yLv)) (And.intro (@yLw) (@yLx))) (And.intro (And.intro (@yLy) (@yLz)) (And.intro (@yKv) (And.intro (@yKw) (@yKx))))) (And.intro (And.intro (And.intro (@yKy) (@yKz)) (And.intro (@yJv) (@yJw))) (And.intro (And.intro (@yJx) (@yJy)) (And.intro (@yJz) (And.intro (@yIv) (@yIw)))))) (And.intro (And.intro (And.intro (And.intro (@yIx) (@yIy)) (And.intro (@yIz) (@yHv))) (And.intro (And.intro (@yHw) (@yHx)) (And.intro (@yHy) (And.intro (@yHz) (@yGv))))) (And.intro (And.intro (And.intro (@yGw) (@yGx)) (And.intro (@yGy) (And.intro (@yGz) (@yFv)))) (And.intro (And.intro (@yFw) (@yFx)) (And.intro (@yFy) (And.intro (@yFz) (@yEv))))))) (And.intro (And.intro (And.intro (And.intro (And.intro (@yEw) (@yEx)) (And.intro (@yEy) (@yEz))) (And.intro (And.intro (@yDv) (@yDw)) (And.intro (@yDx) (And.intro (@yDy) (@yDz))))) (And.intro (And.intro (And.intro (@yCv) (@yCw)) (And.intro (@yCx) (And.intro (@yCy) (@yCz)))) (And.intro (And.intro (@zSz) (@yBv)) (And.intro (@yBw) (And.intro (@yBx) (@yBy)))))) (And.intro (And.intro (And.intro (And.intro (@yBz) (@yAv)) (And.intro (@yAw) (@yAx))) (And.intro (And.intro (@yAy) (@yAz)) (And.intro (@zZv) (And.intro (@zZw) (@zZx))))) (And.intro (And.intro (And.intro (@zZy) (@zZz)) (And.intro (@zQy) (And.intro (@zSv) (@zSw)))) (And.intro (And.intro (@zQw) (@zSx)) (And.intro (@zRy) (And.intro (@zSy) (@zRw))))))))
theorem lawPeriodNone (xs ys:List Int) (k:Int) (a b:AV) (h:H) (wf:Wf h) (hs:Sl h a 1 xs.length (xs.map ii)) (ht:Sl h b 1 ys.length (ys.map ii)) (hx:errB xs=0) (hy:errB ys=0) (hll:ys.length=xs.length) (h10:xs.length≤10) (hb:backB (bN (bitL xs)) xs.length=false) :
    (om Try.prog KK).call (.fn 13 [a,b,.int .u8 k]) h = .ok (.bool true) h:=by
  have hl : ∀ h',lenE Try.prog 22 a h'=some (ii (xs.length:Int)):=fun h'=>hs.len yTx
  have hl2 : ∀ h',lenE Try.prog 22 b h'=some (ii (xs.length:Int)):=fun h'=>by rw [← hll];exact ht.len yTx
  obtain ⟨f1,f2⟩:=zPv hs
  obtain ⟨f3,f4⟩:=zPv ht
  have cf1 : ∀ (l:List AO) (w:Nat),w≤h.clock+l.length→(om Try.prog KK).call (.fn 37 [a]) (X h l w) = .ok (.bool true) (X h l w):=fun l w hw=>by rw [fine xs a _ (wf.X hw) (hs.up wf l w),hx];rfl
  have cf2 : ∀ (l:List AO) (w:Nat),w≤h.clock+l.length→(om Try.prog KK).call (.fn 37 [b]) (X h l w) = .ok (.bool true) (X h l w):=fun l w hw=>by rw [fine ys b _ (wf.X hw) (ht.up wf l w),hy];rfl
  have cp : ∀ (l:List AO) (w:Nat),w≤h.clock+l.length→(om Try.prog KK).call (.fn 30 [a,b]) (X h l w) = .ok (.tup [.int .i64 0,.int .i64 5]) (X h l w):=fun l w hw=>perNone xs ys (err3_is hx hy hll) (by omega) hb a b _ (wf.X hw) (hs.up wf l w) (ht.up wf l w)
  unfold backB at hb
  rw [Bool.or_eq_false_iff,decide_eq_false_iff_not] at hb
  obtain ⟨hb0,hb1⟩:=hb
  obtain ⟨hx1,hx2⟩:=xHy hx
  have hs':Sl h a 1 (bitL xs).length ((bitL xs).map bi):=by rw [zLz,← hx2];exact hs
  have hxl:=zLz xs
  obtain ⟨id,off,hix,hld⟩:=bget wf hs' (i:=xs.length - 1) (by omega)
  have hb2:sq (bitL xs) (xs.length - 1)=false:=by
    rw [xRw] at hb1
    exact hb1
  rw [hb2] at hld
  have hld : ∀ l w,load1 id off (X h l w)=some (.int .i64 0):=hld
  have hn1:(xs.length:Int) - 1=((xs.length - 1:Nat):Int):=by omega
  have hp0:(0:Int)<(xs.length:Int):=by omega
  refine ySx (zMy (fn:=Try.f13) Try.func13 rfl rfl rfl rfl rfl ?_)
  simp only [zKv]
  (repeat' (first
  | (with_reducible first|refine zJx ?_|refine zGw ?_|refine zFz ?_|refine zEv ?_|refine zFy ?_|refine zJw ?_|refine zGv ?_|refine zCz ?_|refine zDw ?_|refine zCy ?_|refine zCv ?_|refine zEx ?_|refine zDz ?_|refine zCx ?_|refine zBx ?_|refine zEz ?_|refine zEy ?_|refine zAw ?_|refine zBy ?_)
  | refine zDy ?_|refine zEw rfl ?_|refine zIv ?_|refine zJy ?_
  | ((first|refine zGx rfl rfl rfl rfl rfl fun K_ hK_=>?_|refine zGy rfl rfl rfl rfl rfl fun K_ hK_=>?_);simp only [zAz,zDx,zGz,↓reduceIte,reduceCtorEq,Nat.reduceEqDiff,Bool.not_true,Bool.not_false];refine hK_ _ ?_;clear hK_ K_)
  | refine zDv (by decide) ?_
  | ((try first|refine zKy rfl rfl rfl ?_|refine zIw rfl rfl ?_|refine zKx rfl rfl rfl ?_|refine zJz rfl rfl ?_);(refine zIx fun Q_ hQ_=>?_;simp (disch:=first|omega|(simp only [List.length_cons,List.length_nil,List.length_append];omega)) only [bb,bp,zKv,↓reduceIte,reduceCtorEq,Nat.reduceEqDiff,Nat.reduceLT,Nat.reduceLeDiff,Nat.reduceAdd,Nat.reduceMul,Nat.reduceSub,Nat.reduceBEq,Int.reduceToNat,cond_true,cond_false,eq_self,beq_self_eq_true,hl,hl2,hn1,hp0,hix,hld,f1,f2,f3,f4,zFx wf,zHx wf,zBv wf,zFw wf,zAy wf,zAx,tEvZ37,zIy,zIz,zHv,zHw,zAv wf];first|(refine zCw (Q:=Q_) (fun hp_=>?_) (fun hp_=>?_) <;> first|(exfalso;omega)|(refine hQ_ _ _ ?_;clear hQ_ Q_))|(refine zBw (Q:=Q_) (fun hp_=>?_) (fun hp_=>?_) <;> first|(exfalso;omega)|(refine hQ_ _ _ ?_;clear hQ_ Q_))|(refine hQ_ _ _ ?_;clear hQ_ Q_)|(refine zOv (cf1 _ _ (by first|omega|(simp only [List.length_append,List.length_cons,List.length_nil];omega))) ?_;refine hQ_ _ _ ?_;clear hQ_ Q_)|(refine zOv (cf2 _ _ (by first|omega|(simp only [List.length_append,List.length_cons,List.length_nil];omega))) ?_;refine hQ_ _ _ ?_;clear hQ_ Q_)|(refine zOv (cp _ _ (by first|omega|(simp only [List.length_append,List.length_cons,List.length_nil];omega))) ?_;refine hQ_ _ _ ?_;clear hQ_ Q_)|(refine zOv (works _) ?_;refine hQ_ _ _ ?_;clear hQ_ Q_)))
  | (refine zHz fun K_ hK_=>?_;simp (disch:=omega) only [zFv,zAz,zHy,↓reduceIte,reduceCtorEq,Nat.reduceEqDiff,Nat.reduceLT];refine hK_ _ ?_;clear hK_ K_)))
  all_goals (refine zKw _ _ rfl (ret1 (by decide)) ?_;simp only [zAz,↓reduceIte,reduceCtorEq,Nat.reduceEqDiff];refine zLy rfl (by omega) ?_)
  all_goals exact ⟨rfl,rfl⟩
theorem mL_sq (m:Nat→Bool) {n i:Nat} (hi:i<n):sq (mL m n) i=m i:=by
  unfold sq mL
  rw [List.getD_eq_getElem?_getD,List.getElem?_map,List.getElem?_range hi];rfl
def allB (m:Nat→Bool) (q:Nat):Nat→Bool
  | 0=>true
  | j+1=>allB m q j && (m (q+j) == m j)
theorem allB_succ (m:Nat→Bool) (q j:Nat):allB m q (j+1)=(allB m q j && (m (q+j) == m j)):=rfl
theorem allB_true {m:Nat→Bool} {q:Nat} : ∀ {j:Nat},allB m q j=true → ∀ i,i<j→m (q+i)=m i
  | 0,_,_,h=>absurd h (Nat.not_lt_zero _)
  | j+1,h,i,hi=>by
    rw [allB_succ,Bool.and_eq_true,beq_iff_eq] at h
    by_cases e:i=j
    · subst e;exact h.2
    · exact allB_true h.1 i (by omega)
theorem allB_false {m:Nat→Bool} {q j:Nat} (h : ∃ i,i<j∧m (q+i)≠m i):allB m q j=false:=by
  cases e:allB m q j
  · rfl
  · obtain ⟨i,hi,hne⟩:=h
    exact absurd (allB_true e i hi) hne
theorem lawPeriodOK (xs ys:List Int) (k:Int) (hk:0≤k∧k≤255) (a b:AV) (hcb:CapU 1 b) (h:H) (wf:Wf h) (hs:Sl h a 1 xs.length (xs.map ii)) (ht:Sl h b 1 ys.length (ys.map ii)) (hx:errB xs=0) (hy:errB ys=0) (hll:ys.length=xs.length) (h10:xs.length≤10) (hb:backB (bN (bitL xs)) xs.length=true) :
    (om Try.prog KK).call (.fn 13 [a,b,.int .u8 k]) h = .ok (.bool true) h:=by
  have hl : ∀ h',lenE Try.prog 22 a h'=some (ii (xs.length:Int)):=fun h'=>hs.len yTx
  have hl2 : ∀ h',lenE Try.prog 22 b h'=some (ii (xs.length:Int)):=fun h'=>by rw [← hll];exact ht.len yTx
  obtain ⟨f1,f2⟩:=zPv hs
  obtain ⟨f3,f4⟩:=zPv ht
  have cf1 : ∀ (l:List AO) (w:Nat),w≤h.clock+l.length→(om Try.prog KK).call (.fn 37 [a]) (X h l w) = .ok (.bool true) (X h l w):=fun l w hw=>by rw [fine xs a _ (wf.X hw) (hs.up wf l w),hx];rfl
  have cf2 : ∀ (l:List AO) (w:Nat),w≤h.clock+l.length→(om Try.prog KK).call (.fn 37 [b]) (X h l w) = .ok (.bool true) (X h l w):=fun l w hw=>by rw [fine ys b _ (wf.X hw) (ht.up wf l w),hy];rfl
  have he:=err3_is hx hy hll
  have hbk:=backB_iff.1 hb
  obtain ⟨hx1,hx2⟩:=xHy hx
  obtain ⟨hy1,hy2⟩:=xHy hy
  have hxl:=zLz xs
  have hyl:=zLz ys
  have hs':Sl h a 1 (bitL xs).length ((bitL xs).map bi):=by rw [zLz,← hx2];exact hs
  have ht':Sl h b 1 (bitL ys).length ((bitL ys).map bi):=by rw [zLz,← hy2];exact ht
  obtain ⟨m,hme⟩ : ∃ m,m=runS (bN (bitL xs)) xs.length (sq (bitL ys)):=⟨_,rfl⟩
  have hm:IsRun (bN (bitL xs)) xs.length (sq (bitL ys)) m:=by rw [hme];exact runS_is _ _ _
  obtain ⟨p,r1,r2,r3,_⟩:=perOK xs ys he (by omega) hb m hm a b _ (wf.X (l:=[]) (w:=h.clock) (by simp)) (hs.up wf _ _) (ht.up wf _ _)
  have cp : ∀ (l:List AO) (w:Nat),w≤h.clock+l.length→(om Try.prog KK).call (.fn 30 [a,b]) (X h l w) = .ok (.tup [ii (p:Int),.int .i64 0]) (X h l w):=fun l w hw=>by
    obtain ⟨q,s1,_,_,e⟩:=perOK xs ys he (by omega) hb m hm a b _ (wf.X hw) (hs.up wf l w) (ht.up wf l w)
    rw [r1.unique s1];exact e
  have hL128:xs.length≤128:=by omega
  obtain ⟨hp0,hpe⟩:=rep_start hL128 hbk hm.then_ r1
  have hbits:=rep_bits hL128 hm.then_ hpe
  have hpow:2 ^ xs.length≤1024:=Nat.pow_le_pow_right (by omega) h10
  have hpmax : ¬ max (1:Int) (((2 ^ xs.length:Nat):Int) - 1)<(p:Int):=by
    by_cases h1:1<p
    · have:=r3 ⟨0,Nat.two_pow_pos _,rep_zero hL128 hbk hm.then_ r1 h1⟩
      omega
    · omega
  have hsh : ∀ x y,binE Try.prog .shl 3 x y (.int .i64 1) (.int .i64 (xs.length:Int))=some (ii ((2 ^ xs.length:Nat):Int)):=fun x y=>shl_small _ h10
  have hp1 : ¬ (p:Int)<1:=by omega
  generalize hN:2 ^ xs.length=N at *

  have hmany:(p:Int)+300=((p+300:Nat):Int):=by omega
  have her:errRun xs ys ((p+300:Nat):Int)=0:=by
    unfold errRun
    rw [if_pos he,if_neg (by omega),if_neg (by omega)]
  have hmade:madeI xs ys ((p+300:Nat):Int)=numB (mL m (p+300)):=by
    unfold madeI numB
    rw [if_pos her,hxl,Int.toNat_natCast,hme]
  obtain ⟨v,M,hcv,hsv,e⟩:=run_any xs ys ((p+300:Nat):Int) a b hcb (X h [] h.clock) (wf.X (by simp)) (hs.up wf _ _) (ht.up wf _ _)
  rw [X_X,X_w,List.nil_append] at e hsv
  rw [her] at e
  rw [hmade] at hsv
  have hml:(numB (mL m (p+300))).length=p+300:=by unfold numB;rw [List.length_map,yRw]
  rw [hml,numB_ii] at hsv
  obtain ⟨fv1,fv2⟩:=zPv hsv
  have hlv : ∀ h',lenE Try.prog 22 v h'=some (ii ((p+300:Nat):Int)):=fun h'=>hsv.len yTx
  have wfM:Wf (X h M h.clock):=wf.X (by omega)
  have hget : ∀ i,i<p+300 → ∃ id off,indexAddrE Try.prog 22 v (.int .i64 (i:Int))=some (.ptr id off) ∧ ∀ w,load1 id off (X h M w)=some (bi (m i)):=fun i hi=>by
    have hsv2:Sl (X h M h.clock) v 1 (mL m (p+300)).length ((mL m (p+300)).map bi):=by rw [yRw];exact hsv
    obtain ⟨id,off,hix,hld⟩:=bget wfM hsv2 (i:=i) (by rw [yRw];exact hi)
    refine ⟨id,off,hix,fun w=>?_⟩
    have:=hld [] w
    rw [X_X,List.append_nil,mL_sq m hi] at this
    exact this

  obtain ⟨kn,rfl⟩ : ∃ kn:Nat,k=(kn:Int):=⟨k.toNat,by omega⟩
  have hkn:kn+xs.length≤p+300:=by omega
  have hknI:(kn:Int)+(xs.length:Int)=((kn+xs.length:Nat):Int):=by omega
  obtain ⟨c,hcut,hsc,hcc⟩:=hsv.cut (P:=Try.prog) (lo:=some kn) (hi:=some (kn+xs.length)) (l:=kn) (hh:=kn+xs.length) (by omega) hkn rfl rfl yTx sz_3 (by omega) hcv
  have hcells:(((mL m (p+300)).map bi).drop (kn * 1)).take ((kn+xs.length - kn) * 1)=(numB (mL (fun i=>m (kn+i)) xs.length)).map ii:=by
    rw [numB_ii,Nat.mul_one,Nat.mul_one,show kn+xs.length - kn=xs.length by omega]
    apply List.ext_getElem?
    intro i
    unfold mL
    rw [List.getElem?_take]
    by_cases hi:i<xs.length
    · rw [if_pos hi,List.getElem?_drop,List.getElem?_map,List.getElem?_map,List.getElem?_map,List.getElem?_map,List.getElem?_range (by omega),List.getElem?_range hi];rfl
    · rw [if_neg hi,List.getElem?_eq_none (by simp;omega)]
  rw [hcells,show kn+xs.length - kn=xs.length by omega] at hsc
  obtain ⟨fc1,fc2⟩:=zPv hsc
  have hzl:(numB (mL (fun i=>m (kn+i)) xs.length)).length=xs.length:=by unfold numB;rw [List.length_map,yRw]
  have hrun2:IsRun (bN (bitL xs)) xs.length (sq (bitL (numB (mL (fun i=>m (kn+i)) xs.length)))) (fun i=>m (kn+i)):=⟨fun i hi=>by rw [numB_bitL,mL_sq _ hi],fun i hi=>run_shift hm.then_ kn hi⟩
  have cp2:(om Try.prog KK).call (.fn 30 [a,c]) (X h M h.clock) = .ok (.tup [ii (p:Int),.int .i64 0]) (X h M h.clock):=by
    obtain ⟨q,s1,_,_,e⟩:=perOK xs (numB (mL (fun i=>m (kn+i)) xs.length)) (err3_of hx _ (yRw _ _)) (by omega) hb (fun i=>m (kn+i)) hrun2 a c _ wfM (hs.up wf _ _) (by rw [hzl];exact hsc)
    have s2:FirstRep (fun i=>st xs.length m (xs.length+(kn+i))) q:=by
      have:(fun i=>st xs.length (fun i=>m (kn+i)) (xs.length+i))=fun i=>st xs.length m (xs.length+(kn+i)):=funext fun i=>st_shift hL128 m kn i
      rw [this] at s1
      exact s1
    rw [(rep_from hL128 hbk hm.then_ r1 kn).unique s2]
    exact e
  refine ySx (zMy (fn:=Try.f13) Try.func13 rfl rfl rfl rfl rfl ?_)
  simp only [zKv]
  have hnot0 : ∀ hh:0<xs.length,∃ id off,indexAddrE Try.prog 22 a (.int .i64 ((xs.length:Int) - 1))=some (.ptr id off) ∧ ∀ l w,load1 id off (X h l w)=some (.int .i64 1):=fun hh=>by
    obtain ⟨id,off,hix,hld⟩:=bget wf hs' (i:=xs.length - 1) (by omega)
    refine ⟨id,off,by rw [← hix,show (xs.length:Int) - 1=((xs.length - 1:Nat):Int) by omega],fun l w=>?_⟩
    rw [hld]
    have:sq (bitL xs) (xs.length - 1)=true:=by
      rcases hbk with h0|h1
      · omega
      · rw [xRw] at h1;exact h1
    rw [this];rfl
  have hkI:(0:Int)≤(kn:Int)∧(kn:Int)≤255:=hk
  by_cases h0:0<xs.length
  · obtain ⟨id0,off0,hix0,hld0⟩:=hnot0 h0
    have hp0':(0:Int)<(xs.length:Int):=by omega
    (repeat' (first
  | (with_reducible first|refine zJx ?_|refine zGw ?_|refine zFz ?_|refine zEv ?_|refine zFy ?_|refine zJw ?_|refine zGv ?_|refine zCz ?_|refine zDw ?_|refine zCy ?_|refine zCv ?_|refine zEx ?_|refine zDz ?_|refine zCx ?_|refine zBx ?_|refine zEz ?_|refine zEy ?_|refine zAw ?_|refine zBy ?_)
  | refine zDy ?_|refine zEw rfl ?_|refine zIv ?_|refine zJy ?_
  | ((first|refine zGx rfl rfl rfl rfl rfl fun K_ hK_=>?_|refine zGy rfl rfl rfl rfl rfl fun K_ hK_=>?_);simp only [zAz,zDx,zGz,↓reduceIte,reduceCtorEq,Nat.reduceEqDiff,Bool.not_true,Bool.not_false];refine hK_ _ ?_;clear hK_ K_)
  | refine zDv (by decide) ?_
  | ((try first|refine zKy rfl rfl rfl ?_|refine zIw rfl rfl ?_|refine zKx rfl rfl rfl ?_|refine zJz rfl rfl ?_);(refine zIx fun Q_ hQ_=>?_;simp (disch:=first|omega|(simp only [List.length_cons,List.length_nil,List.length_append];omega)) only [bb,bp,zKv,↓reduceIte,reduceCtorEq,Nat.reduceEqDiff,Nat.reduceLT,Nat.reduceLeDiff,Nat.reduceAdd,Nat.reduceMul,Nat.reduceSub,Nat.reduceBEq,Int.reduceToNat,cond_true,cond_false,eq_self,beq_self_eq_true,hl,hl2,hlv,hp0',hix0,hld0,hsh,hpmax,hp1,hmany,conv_u8 hkI,f1,f2,f3,f4,fv1,fv2,zFx wf,zHx wf,zBv wf,zFw wf,zAy wf,zAx,tEvZ37,zIy,zIz,zHv,zHw,zAv wf];first|(refine zCw (Q:=Q_) (fun hp_=>?_) (fun hp_=>?_) <;> first|(exfalso;omega)|(refine hQ_ _ _ ?_;clear hQ_ Q_))|(refine zBw (Q:=Q_) (fun hp_=>?_) (fun hp_=>?_) <;> first|(exfalso;omega)|(refine hQ_ _ _ ?_;clear hQ_ Q_))|(refine hQ_ _ _ ?_;clear hQ_ Q_)|(refine zOv (cf1 _ _ (by first|omega|(simp only [List.length_append,List.length_cons,List.length_nil];omega))) ?_;refine hQ_ _ _ ?_;clear hQ_ Q_)|(refine zOv (cf2 _ _ (by first|omega|(simp only [List.length_append,List.length_cons,List.length_nil];omega))) ?_;refine hQ_ _ _ ?_;clear hQ_ Q_)|(refine zOv (cp _ _ (by first|omega|(simp only [List.length_append,List.length_cons,List.length_nil];omega))) ?_;refine hQ_ _ _ ?_;clear hQ_ Q_)|(refine zOv (e) ?_;refine hQ_ _ _ ?_;clear hQ_ Q_)))
  | (refine zHz fun K_ hK_=>?_;simp (disch:=omega) only [zFv,zAz,zHy,↓reduceIte,reduceCtorEq,Nat.reduceEqDiff,Nat.reduceLT];refine hK_ _ ?_;clear hK_ K_)))
    refine zOw (α:=Nat) (fun (i:Nat) f d h'=>i≤300∧f 0=a∧f 1=b∧f 7=ii (p:Int)∧f 9=v∧f 10=ii (kn:Int)∧f 11=ii (i:Int)∧d=[]∧h'=X h M h.clock) (fun i=>300 - i) ?_ 301 0 (by omega) ?_
    · rintro i f d h' ⟨hi,g0,g1,g7,g9,g10,g11,rfl,rfl⟩
      by_cases hlt:i<300
      · obtain ⟨id1,off1,hix1,hld1⟩:=hget i (by omega)
        obtain ⟨id2,off2,hix2,hld2⟩:=hget (i+p) (by omega)
        rw [hbits i] at hld2
        have hip:(i:Int)+(p:Int)=((i+p:Nat):Int):=by omega
        have hv0:(0:Int)≤(((m i).toNat:Nat):Int)∧(((m i).toNat:Nat):Int)≤1:=by cases m i <;> simp
        generalize hv1:(((m i).toNat:Nat):Int)=x1 at *
        have hld1 : ∀ w,load1 id1 off1 (X h M w)=some (ii x1):=fun w=>by rw [hld1 w,← hv1]
        have hld2 : ∀ w,load1 id2 off2 (X h M w)=some (ii x1):=fun w=>by rw [hld2 w,← hv1]
        (repeat' (first
  | (with_reducible first|refine zJx ?_|refine zGw ?_|refine zFz ?_|refine zEv ?_|refine zFy ?_|refine zJw ?_|refine zGv ?_|refine zCz ?_|refine zDw ?_|refine zCy ?_|refine zCv ?_|refine zEx ?_|refine zDz ?_|refine zCx ?_|refine zBx ?_|refine zEz ?_|refine zEy ?_|refine zAw ?_|refine zBy ?_)
  | refine zDy ?_|refine zEw rfl ?_|refine zIv ?_|refine zJy ?_
  | ((first|refine zGx rfl rfl rfl rfl rfl fun K_ hK_=>?_|refine zGy rfl rfl rfl rfl rfl fun K_ hK_=>?_);simp only [zAz,zDx,zGz,↓reduceIte,reduceCtorEq,Nat.reduceEqDiff,Bool.not_true,Bool.not_false];refine hK_ _ ?_;clear hK_ K_)
  | refine zDv (by decide) ?_
  | ((try first|refine zKy rfl rfl rfl ?_|refine zIw rfl rfl ?_|refine zKx rfl rfl rfl ?_|refine zJz rfl rfl ?_);(refine zIx fun Q_ hQ_=>?_;simp (disch:=first|omega|(simp only [List.length_cons,List.length_nil,List.length_append];omega)) only [bb,bp,zKv,↓reduceIte,reduceCtorEq,Nat.reduceEqDiff,Nat.reduceLT,Nat.reduceLeDiff,Nat.reduceAdd,Nat.reduceMul,Nat.reduceSub,Nat.reduceBEq,Int.reduceToNat,cond_true,cond_false,eq_self,beq_self_eq_true,f1,f2,f3,f4,fv1,fv2,g0,g1,g7,g9,g10,g11,zFx wf,zHx wf,zBv wf,zFw wf,zAy wf,zAx,tEvZ37,zIy,zIz,zHv,zHw,zAv wf];first|(refine zCw (Q:=Q_) (fun hp_=>?_) (fun hp_=>?_) <;> first|(exfalso;omega)|(refine hQ_ _ _ ?_;clear hQ_ Q_))|(refine zBw (Q:=Q_) (fun hp_=>?_) (fun hp_=>?_) <;> first|(exfalso;omega)|(refine hQ_ _ _ ?_;clear hQ_ Q_))|(refine hQ_ _ _ ?_;clear hQ_ Q_)))
  | (refine zHz fun K_ hK_=>?_;simp (disch:=omega) only [zFv,zAz,zHy,↓reduceIte,reduceCtorEq,Nat.reduceEqDiff,Nat.reduceLT];refine hK_ _ ?_;clear hK_ K_)))
        refine zPy [.no,.no,.no,.no,.no,.no,.no,.no,.no,.no,.full] (by kernel_rfl) ?_
        (repeat' (first
  | (with_reducible first|refine zJx ?_|refine zGw ?_|refine zFz ?_|refine zEv ?_|refine zFy ?_|refine zJw ?_|refine zGv ?_|refine zCz ?_|refine zDw ?_|refine zCy ?_|refine zCv ?_|refine zEx ?_|refine zDz ?_|refine zCx ?_|refine zBx ?_|refine zEz ?_|refine zEy ?_|refine zAw ?_|refine zBy ?_)
  | refine zDy ?_|refine zEw rfl ?_|refine zIv ?_|refine zJy ?_
  | ((first|refine zGx rfl rfl rfl rfl rfl fun K_ hK_=>?_|refine zGy rfl rfl rfl rfl rfl fun K_ hK_=>?_);simp only [zAz,zDx,zGz,↓reduceIte,reduceCtorEq,Nat.reduceEqDiff,Bool.not_true,Bool.not_false];refine hK_ _ ?_;clear hK_ K_)
  | refine zDv (by decide) ?_
  | ((try first|refine zKy rfl rfl rfl ?_|refine zIw rfl rfl ?_|refine zKx rfl rfl rfl ?_|refine zJz rfl rfl ?_);(refine zIx fun Q_ hQ_=>?_;simp (disch:=first|omega|(simp only [List.length_cons,List.length_nil,List.length_append];omega)) only [bb,bp,zKv,↓reduceIte,reduceCtorEq,Nat.reduceEqDiff,Nat.reduceLT,Nat.reduceLeDiff,Nat.reduceAdd,Nat.reduceMul,Nat.reduceSub,Nat.reduceBEq,Int.reduceToNat,cond_true,cond_false,eq_self,beq_self_eq_true,f1,f2,f3,f4,fv1,fv2,g0,g1,g7,g9,g10,g11,hip,hix1,hld1,hix2,hld2,zFx wf,tEvZ37,zIy,zIz,zHv,zHw,zAv wf];first|(refine zCw (Q:=Q_) (fun hp_=>?_) (fun hp_=>?_) <;> first|(exfalso;omega)|(refine hQ_ _ _ ?_;clear hQ_ Q_))|(refine zBw (Q:=Q_) (fun hp_=>?_) (fun hp_=>?_) <;> first|(exfalso;omega)|(refine hQ_ _ _ ?_;clear hQ_ Q_))|(refine hQ_ _ _ ?_;clear hQ_ Q_)))
  | (refine zHz fun K_ hK_=>?_;simp (disch:=omega) only [zFv,zAz,zHy,↓reduceIte,reduceCtorEq,Nat.reduceEqDiff,Nat.reduceLT];refine hK_ _ ?_;clear hK_ K_)))
        exact zJv (i+1) (by omega) ⟨hlt,by simp only [zAz,↓reduceIte,reduceCtorEq,Nat.reduceEqDiff];exact g0,by simp only [zAz,↓reduceIte,reduceCtorEq,Nat.reduceEqDiff];exact g1,by simp only [zAz,↓reduceIte,reduceCtorEq,Nat.reduceEqDiff];exact g7,by simp only [zAz,↓reduceIte,reduceCtorEq,Nat.reduceEqDiff];exact g9,by simp only [zAz,↓reduceIte,reduceCtorEq,Nat.reduceEqDiff];exact g10,by simp only [zAz,↓reduceIte,reduceCtorEq,Nat.reduceEqDiff];rfl,rfl,rfl⟩
      · have hie:i=300:=by omega
        subst hie
        (repeat' (first
  | (with_reducible first|refine zJx ?_|refine zGw ?_|refine zFz ?_|refine zEv ?_|refine zFy ?_|refine zJw ?_|refine zGv ?_|refine zCz ?_|refine zDw ?_|refine zCy ?_|refine zCv ?_|refine zEx ?_|refine zDz ?_|refine zCx ?_|refine zBx ?_|refine zEz ?_|refine zEy ?_|refine zAw ?_|refine zBy ?_)
  | refine zDy ?_|refine zEw rfl ?_|refine zIv ?_|refine zJy ?_
  | ((first|refine zGx rfl rfl rfl rfl rfl fun K_ hK_=>?_|refine zGy rfl rfl rfl rfl rfl fun K_ hK_=>?_);simp only [zAz,zDx,zGz,↓reduceIte,reduceCtorEq,Nat.reduceEqDiff,Bool.not_true,Bool.not_false];refine hK_ _ ?_;clear hK_ K_)
  | refine zDv (by decide) ?_
  | ((try first|refine zKy rfl rfl rfl ?_|refine zIw rfl rfl ?_|refine zKx rfl rfl rfl ?_|refine zJz rfl rfl ?_);(refine zIx fun Q_ hQ_=>?_;simp (disch:=first|omega|(simp only [List.length_cons,List.length_nil,List.length_append];omega)) only [bb,bp,zKv,↓reduceIte,reduceCtorEq,Nat.reduceEqDiff,Nat.reduceLT,Nat.reduceLeDiff,Nat.reduceAdd,Nat.reduceMul,Nat.reduceSub,Nat.reduceBEq,Int.reduceToNat,cond_true,cond_false,eq_self,beq_self_eq_true,hl,hl2,hknI,hcut,f1,f2,f3,f4,fv1,fv2,fc1,fc2,g0,g1,g7,g9,g10,g11,zFx wf,zHx wf,zBv wf,zFw wf,zAy wf,zAx,tEvZ37,zIy,zIz,zHv,zHw,zAv wf];first|(refine zCw (Q:=Q_) (fun hp_=>?_) (fun hp_=>?_) <;> first|(exfalso;omega)|(refine hQ_ _ _ ?_;clear hQ_ Q_))|(refine zBw (Q:=Q_) (fun hp_=>?_) (fun hp_=>?_) <;> first|(exfalso;omega)|(refine hQ_ _ _ ?_;clear hQ_ Q_))|(refine hQ_ _ _ ?_;clear hQ_ Q_)|(refine zOv (cp2) ?_;refine hQ_ _ _ ?_;clear hQ_ Q_)))
  | (refine zHz fun K_ hK_=>?_;simp (disch:=omega) only [zFv,zAz,zHy,↓reduceIte,reduceCtorEq,Nat.reduceEqDiff,Nat.reduceLT];refine hK_ _ ?_;clear hK_ K_)))
        refine zOw (α:=Nat) (fun (q:Nat) f d h'=>1≤q∧q≤p∧f 0=a∧f 1=b∧f 7=ii (p:Int)∧f 9=v∧f 13=ii (q:Int)∧d=[]∧h'=X h M h.clock) (fun q=>p - q) ?_ (p+1) 1 (by omega) ?_
        · clear g0 g1 g7 g9 g10 g11
          rintro q f d h' ⟨hq1,hqp,g0,g1,g7,g9,g13,rfl,rfl⟩
          by_cases hlt:q<p
          · have hlt':(q:Int)<(p:Int):=by omega
            (repeat' (first
  | (with_reducible first|refine zJx ?_|refine zGw ?_|refine zFz ?_|refine zEv ?_|refine zFy ?_|refine zJw ?_|refine zGv ?_|refine zCz ?_|refine zDw ?_|refine zCy ?_|refine zCv ?_|refine zEx ?_|refine zDz ?_|refine zCx ?_|refine zBx ?_|refine zEz ?_|refine zEy ?_|refine zAw ?_|refine zBy ?_)
  | refine zDy ?_|refine zEw rfl ?_|refine zIv ?_|refine zJy ?_
  | ((first|refine zGx rfl rfl rfl rfl rfl fun K_ hK_=>?_|refine zGy rfl rfl rfl rfl rfl fun K_ hK_=>?_);simp only [zAz,zDx,zGz,↓reduceIte,reduceCtorEq,Nat.reduceEqDiff,Bool.not_true,Bool.not_false];refine hK_ _ ?_;clear hK_ K_)
  | refine zDv (by decide) ?_
  | ((try first|refine zKy rfl rfl rfl ?_|refine zIw rfl rfl ?_|refine zKx rfl rfl rfl ?_|refine zJz rfl rfl ?_);(refine zIx fun Q_ hQ_=>?_;simp (disch:=first|omega|(simp only [List.length_cons,List.length_nil,List.length_append];omega)) only [bb,bp,zKv,↓reduceIte,reduceCtorEq,Nat.reduceEqDiff,Nat.reduceLT,Nat.reduceLeDiff,Nat.reduceAdd,Nat.reduceMul,Nat.reduceSub,Nat.reduceBEq,Int.reduceToNat,cond_true,cond_false,eq_self,beq_self_eq_true,hl,hl2,hlt',f1,f2,f3,f4,fv1,fv2,g0,g1,g7,g9,g13,zFx wf,zHx wf,zBv wf,zFw wf,zAy wf,zAx,tEvZ37,zIy,zIz,zHv,zHw,zAv wf];first|(refine zCw (Q:=Q_) (fun hp_=>?_) (fun hp_=>?_) <;> first|(exfalso;omega)|(refine hQ_ _ _ ?_;clear hQ_ Q_))|(refine zBw (Q:=Q_) (fun hp_=>?_) (fun hp_=>?_) <;> first|(exfalso;omega)|(refine hQ_ _ _ ?_;clear hQ_ Q_))|(refine hQ_ _ _ ?_;clear hQ_ Q_)))
  | (refine zHz fun K_ hK_=>?_;simp (disch:=omega) only [zFv,zAz,zHy,↓reduceIte,reduceCtorEq,Nat.reduceEqDiff,Nat.reduceLT];refine hK_ _ ?_;clear hK_ K_)))
            refine zOw (α:=Nat) (fun (j:Nat) f d h'=>j≤xs.length∧f 0=a∧f 1=b∧f 7=ii (p:Int)∧f 9=v∧f 13=ii (q:Int)∧f 14 = .bool (allB m q j)∧f 15=ii (j:Int)∧d=[]∧h'=X h M h.clock) (fun j=>xs.length - j) ?_ (xs.length+1) 0 (by omega) ?_
            · clear g0 g1 g7 g9 g13
              rintro j f d h' ⟨hj,g0,g1,g7,g9,g13,g14,g15,rfl,rfl⟩
              by_cases hjl:j<xs.length
              · have hjl':(j:Int)<(xs.length:Int):=by omega
                cases hall:allB m q j
                · rw [hall] at g14
                  (repeat' (first
  | (with_reducible first|refine zJx ?_|refine zGw ?_|refine zFz ?_|refine zEv ?_|refine zFy ?_|refine zJw ?_|refine zGv ?_|refine zCz ?_|refine zDw ?_|refine zCy ?_|refine zCv ?_|refine zEx ?_|refine zDz ?_|refine zCx ?_|refine zBx ?_|refine zEz ?_|refine zEy ?_|refine zAw ?_|refine zBy ?_)
  | refine zDy ?_|refine zEw rfl ?_|refine zIv ?_|refine zJy ?_
  | ((first|refine zGx rfl rfl rfl rfl rfl fun K_ hK_=>?_|refine zGy rfl rfl rfl rfl rfl fun K_ hK_=>?_);simp only [zAz,zDx,zGz,↓reduceIte,reduceCtorEq,Nat.reduceEqDiff,Bool.not_true,Bool.not_false];refine hK_ _ ?_;clear hK_ K_)
  | refine zDv (by decide) ?_
  | ((try first|refine zKy rfl rfl rfl ?_|refine zIw rfl rfl ?_|refine zKx rfl rfl rfl ?_|refine zJz rfl rfl ?_);(refine zIx fun Q_ hQ_=>?_;simp (disch:=first|omega|(simp only [List.length_cons,List.length_nil,List.length_append];omega)) only [bb,bp,zKv,↓reduceIte,reduceCtorEq,Nat.reduceEqDiff,Nat.reduceLT,Nat.reduceLeDiff,Nat.reduceAdd,Nat.reduceMul,Nat.reduceSub,Nat.reduceBEq,Int.reduceToNat,cond_true,cond_false,eq_self,beq_self_eq_true,hl,hl2,hjl',f1,f2,f3,f4,fv1,fv2,g0,g1,g7,g9,g13,g14,g15,zFx wf,zHx wf,zBv wf,zFw wf,zAy wf,zAx,tEvZ37,zIy,zIz,zHv,zHw,zAv wf];first|(refine zCw (Q:=Q_) (fun hp_=>?_) (fun hp_=>?_) <;> first|(exfalso;omega)|(refine hQ_ _ _ ?_;clear hQ_ Q_))|(refine zBw (Q:=Q_) (fun hp_=>?_) (fun hp_=>?_) <;> first|(exfalso;omega)|(refine hQ_ _ _ ?_;clear hQ_ Q_))|(refine hQ_ _ _ ?_;clear hQ_ Q_)))
  | (refine zHz fun K_ hK_=>?_;simp (disch:=omega) only [zFv,zAz,zHy,↓reduceIte,reduceCtorEq,Nat.reduceEqDiff,Nat.reduceLT];refine hK_ _ ?_;clear hK_ K_)))
                  refine zPy [.full,.full,.no,.no,.no,.no,.no,.no,.no,.no,.no,.no,.full,.full,.full] (by kernel_rfl) ?_
                  (repeat' (first
  | (with_reducible first|refine zJx ?_|refine zGw ?_|refine zFz ?_|refine zEv ?_|refine zFy ?_|refine zJw ?_|refine zGv ?_|refine zCz ?_|refine zDw ?_|refine zCy ?_|refine zCv ?_|refine zEx ?_|refine zDz ?_|refine zCx ?_|refine zBx ?_|refine zEz ?_|refine zEy ?_|refine zAw ?_|refine zBy ?_)
  | refine zDy ?_|refine zEw rfl ?_|refine zIv ?_|refine zJy ?_
  | ((first|refine zGx rfl rfl rfl rfl rfl fun K_ hK_=>?_|refine zGy rfl rfl rfl rfl rfl fun K_ hK_=>?_);simp only [zAz,zDx,zGz,↓reduceIte,reduceCtorEq,Nat.reduceEqDiff,Bool.not_true,Bool.not_false];refine hK_ _ ?_;clear hK_ K_)
  | refine zDv (by decide) ?_
  | ((try first|refine zKy rfl rfl rfl ?_|refine zIw rfl rfl ?_|refine zKx rfl rfl rfl ?_|refine zJz rfl rfl ?_);(refine zIx fun Q_ hQ_=>?_;simp (disch:=first|omega|(simp only [List.length_cons,List.length_nil,List.length_append];omega)) only [bb,bp,zKv,↓reduceIte,reduceCtorEq,Nat.reduceEqDiff,Nat.reduceLT,Nat.reduceLeDiff,Nat.reduceAdd,Nat.reduceMul,Nat.reduceSub,Nat.reduceBEq,Int.reduceToNat,cond_true,cond_false,eq_self,beq_self_eq_true,hl,hl2,f1,f2,f3,f4,fv1,fv2,g0,g1,g7,g9,g13,g14,g15,zFx wf,zHx wf,zBv wf,zFw wf,zAy wf,zAx,tEvZ37,zIy,zIz,zHv,zHw,zAv wf];first|(refine zCw (Q:=Q_) (fun hp_=>?_) (fun hp_=>?_) <;> first|(exfalso;omega)|(refine hQ_ _ _ ?_;clear hQ_ Q_))|(refine zBw (Q:=Q_) (fun hp_=>?_) (fun hp_=>?_) <;> first|(exfalso;omega)|(refine hQ_ _ _ ?_;clear hQ_ Q_))|(refine hQ_ _ _ ?_;clear hQ_ Q_)))
  | (refine zHz fun K_ hK_=>?_;simp (disch:=omega) only [zFv,zAz,zHy,↓reduceIte,reduceCtorEq,Nat.reduceEqDiff,Nat.reduceLT];refine hK_ _ ?_;clear hK_ K_)))
                  exact zJv (j+1) (by omega) ⟨hjl,by simp only [zAz,↓reduceIte,reduceCtorEq,Nat.reduceEqDiff];exact g0,by simp only [zAz,↓reduceIte,reduceCtorEq,Nat.reduceEqDiff];exact g1,by simp only [zAz,↓reduceIte,reduceCtorEq,Nat.reduceEqDiff];exact g7,by simp only [zAz,↓reduceIte,reduceCtorEq,Nat.reduceEqDiff];exact g9,by simp only [zAz,↓reduceIte,reduceCtorEq,Nat.reduceEqDiff];exact g13,by simp only [zAz,↓reduceIte,reduceCtorEq,Nat.reduceEqDiff];rw [allB_succ,hall];rfl,by simp only [zAz,↓reduceIte,reduceCtorEq,Nat.reduceEqDiff];rfl,rfl,rfl⟩
                · rw [hall] at g14
                  obtain ⟨id1,off1,hix1,hld1⟩:=hget (q+j) (by omega)
                  obtain ⟨id2,off2,hix2,hld2⟩:=bget wf ht' (i:=j) (by omega)
                  rw [← hm.first j hjl] at hld2
                  have hqj:(q:Int)+(j:Int)=((q+j:Nat):Int):=by omega
                  have hv0:(0:Int)≤(((m (q+j)).toNat:Nat):Int)∧(((m (q+j)).toNat:Nat):Int)≤1:=by cases m (q+j) <;> simp
                  have hw0:(0:Int)≤(((m j).toNat:Nat):Int)∧(((m j).toNat:Nat):Int)≤1:=by cases m j <;> simp
                  have hs1:allB m q (j+1)=decide ((((m (q+j)).toNat:Nat):Int)=(((m j).toNat:Nat):Int)):=by
                    rw [allB_succ,hall]
                    cases m (q+j) <;> cases m j <;> rfl
                  generalize hv1:(((m (q+j)).toNat:Nat):Int)=x1 at *
                  generalize hw1:(((m j).toNat:Nat):Int)=y1 at *
                  have hld1 : ∀ w,load1 id1 off1 (X h M w)=some (ii x1):=fun w=>by rw [hld1 w,← hv1]
                  have hld2 : ∀ l w,load1 id2 off2 (X h l w)=some (ii y1):=fun l w=>by rw [hld2 l w,← hw1]
                  (repeat' (first
  | (with_reducible first|refine zJx ?_|refine zGw ?_|refine zFz ?_|refine zEv ?_|refine zFy ?_|refine zJw ?_|refine zGv ?_|refine zCz ?_|refine zDw ?_|refine zCy ?_|refine zCv ?_|refine zEx ?_|refine zDz ?_|refine zCx ?_|refine zBx ?_|refine zEz ?_|refine zEy ?_|refine zAw ?_|refine zBy ?_)
  | refine zDy ?_|refine zEw rfl ?_|refine zIv ?_|refine zJy ?_
  | ((first|refine zGx rfl rfl rfl rfl rfl fun K_ hK_=>?_|refine zGy rfl rfl rfl rfl rfl fun K_ hK_=>?_);simp only [zAz,zDx,zGz,↓reduceIte,reduceCtorEq,Nat.reduceEqDiff,Bool.not_true,Bool.not_false];refine hK_ _ ?_;clear hK_ K_)
  | refine zDv (by decide) ?_
  | ((try first|refine zKy rfl rfl rfl ?_|refine zIw rfl rfl ?_|refine zKx rfl rfl rfl ?_|refine zJz rfl rfl ?_);(refine zIx fun Q_ hQ_=>?_;simp (disch:=first|omega|(simp only [List.length_cons,List.length_nil,List.length_append];omega)) only [bb,bp,zKv,↓reduceIte,reduceCtorEq,Nat.reduceEqDiff,Nat.reduceLT,Nat.reduceLeDiff,Nat.reduceAdd,Nat.reduceMul,Nat.reduceSub,Nat.reduceBEq,Int.reduceToNat,cond_true,cond_false,eq_self,beq_self_eq_true,hl,hl2,hjl',f1,f2,f3,f4,fv1,fv2,g0,g1,g7,g9,g13,g14,g15,zFx wf,zHx wf,zBv wf,zFw wf,zAy wf,zAx,tEvZ37,zIy,zIz,zHv,zHw,zAv wf];first|(refine zCw (Q:=Q_) (fun hp_=>?_) (fun hp_=>?_) <;> first|(exfalso;omega)|(refine hQ_ _ _ ?_;clear hQ_ Q_))|(refine zBw (Q:=Q_) (fun hp_=>?_) (fun hp_=>?_) <;> first|(exfalso;omega)|(refine hQ_ _ _ ?_;clear hQ_ Q_))|(refine hQ_ _ _ ?_;clear hQ_ Q_)))
  | (refine zHz fun K_ hK_=>?_;simp (disch:=omega) only [zFv,zAz,zHy,↓reduceIte,reduceCtorEq,Nat.reduceEqDiff,Nat.reduceLT];refine hK_ _ ?_;clear hK_ K_)))
                  refine zPy [.full,.full,.no,.no,.no,.no,.no,.no,.no,.no,.no,.no,.full,.full,.full] (by kernel_rfl) ?_
                  (repeat' (first
  | (with_reducible first|refine zJx ?_|refine zGw ?_|refine zFz ?_|refine zEv ?_|refine zFy ?_|refine zJw ?_|refine zGv ?_|refine zCz ?_|refine zDw ?_|refine zCy ?_|refine zCv ?_|refine zEx ?_|refine zDz ?_|refine zCx ?_|refine zBx ?_|refine zEz ?_|refine zEy ?_|refine zAw ?_|refine zBy ?_)
  | refine zDy ?_|refine zEw rfl ?_|refine zIv ?_|refine zJy ?_
  | ((first|refine zGx rfl rfl rfl rfl rfl fun K_ hK_=>?_|refine zGy rfl rfl rfl rfl rfl fun K_ hK_=>?_);simp only [zAz,zDx,zGz,↓reduceIte,reduceCtorEq,Nat.reduceEqDiff,Bool.not_true,Bool.not_false];refine hK_ _ ?_;clear hK_ K_)
  | refine zDv (by decide) ?_
  | ((try first|refine zKy rfl rfl rfl ?_|refine zIw rfl rfl ?_|refine zKx rfl rfl rfl ?_|refine zJz rfl rfl ?_);(refine zIx fun Q_ hQ_=>?_;simp (disch:=first|omega|(simp only [List.length_cons,List.length_nil,List.length_append];omega)) only [bb,bp,zKv,↓reduceIte,reduceCtorEq,Nat.reduceEqDiff,Nat.reduceLT,Nat.reduceLeDiff,Nat.reduceAdd,Nat.reduceMul,Nat.reduceSub,Nat.reduceBEq,Int.reduceToNat,cond_true,cond_false,eq_self,beq_self_eq_true,f1,f2,f3,f4,fv1,fv2,g0,g1,g7,g9,g13,g14,g15,hqj,hix1,hld1,hix2,hld2,zFx wf,tEvZ37,zIy,zIz,zHv,zHw,zAv wf];first|(refine zCw (Q:=Q_) (fun hp_=>?_) (fun hp_=>?_) <;> first|(exfalso;omega)|(refine hQ_ _ _ ?_;clear hQ_ Q_))|(refine zBw (Q:=Q_) (fun hp_=>?_) (fun hp_=>?_) <;> first|(exfalso;omega)|(refine hQ_ _ _ ?_;clear hQ_ Q_))|(refine hQ_ _ _ ?_;clear hQ_ Q_)))
  | (refine zHz fun K_ hK_=>?_;simp (disch:=omega) only [zFv,zAz,zHy,↓reduceIte,reduceCtorEq,Nat.reduceEqDiff,Nat.reduceLT];refine hK_ _ ?_;clear hK_ K_)))
                  · exact zJv (j+1) (by omega) ⟨hjl,by simp only [zAz,↓reduceIte,reduceCtorEq,Nat.reduceEqDiff];exact g0,by simp only [zAz,↓reduceIte,reduceCtorEq,Nat.reduceEqDiff];exact g1,by simp only [zAz,↓reduceIte,reduceCtorEq,Nat.reduceEqDiff];exact g7,by simp only [zAz,↓reduceIte,reduceCtorEq,Nat.reduceEqDiff];exact g9,by simp only [zAz,↓reduceIte,reduceCtorEq,Nat.reduceEqDiff];exact g13,by simp only [zAz,↓reduceIte,reduceCtorEq,Nat.reduceEqDiff];rw [hs1,decide_eq_true (by assumption)],by simp only [zAz,↓reduceIte,reduceCtorEq,Nat.reduceEqDiff];rfl,rfl,rfl⟩
                  · exact zJv (j+1) (by omega) ⟨hjl,by simp only [zAz,↓reduceIte,reduceCtorEq,Nat.reduceEqDiff];exact g0,by simp only [zAz,↓reduceIte,reduceCtorEq,Nat.reduceEqDiff];exact g1,by simp only [zAz,↓reduceIte,reduceCtorEq,Nat.reduceEqDiff];exact g7,by simp only [zAz,↓reduceIte,reduceCtorEq,Nat.reduceEqDiff];exact g9,by simp only [zAz,↓reduceIte,reduceCtorEq,Nat.reduceEqDiff];exact g13,by simp only [zAz,↓reduceIte,reduceCtorEq,Nat.reduceEqDiff];rw [hs1,decide_eq_false (by assumption)],by simp only [zAz,↓reduceIte,reduceCtorEq,Nat.reduceEqDiff];rfl,rfl,rfl⟩
              · have hje:j=xs.length:=by omega
                subst hje
                have hal:allB m q xs.length=false:=allB_false (rep_not (T:=0) hL128 r1 (by omega) hlt)
                rw [hal] at g14
                (repeat' (first
  | (with_reducible first|refine zJx ?_|refine zGw ?_|refine zFz ?_|refine zEv ?_|refine zFy ?_|refine zJw ?_|refine zGv ?_|refine zCz ?_|refine zDw ?_|refine zCy ?_|refine zCv ?_|refine zEx ?_|refine zDz ?_|refine zCx ?_|refine zBx ?_|refine zEz ?_|refine zEy ?_|refine zAw ?_|refine zBy ?_)
  | refine zDy ?_|refine zEw rfl ?_|refine zIv ?_|refine zJy ?_
  | ((first|refine zGx rfl rfl rfl rfl rfl fun K_ hK_=>?_|refine zGy rfl rfl rfl rfl rfl fun K_ hK_=>?_);simp only [zAz,zDx,zGz,↓reduceIte,reduceCtorEq,Nat.reduceEqDiff,Bool.not_true,Bool.not_false];refine hK_ _ ?_;clear hK_ K_)
  | refine zDv (by decide) ?_
  | ((try first|refine zKy rfl rfl rfl ?_|refine zIw rfl rfl ?_|refine zKx rfl rfl rfl ?_|refine zJz rfl rfl ?_);(refine zIx fun Q_ hQ_=>?_;simp (disch:=first|omega|(simp only [List.length_cons,List.length_nil,List.length_append];omega)) only [bb,bp,zKv,↓reduceIte,reduceCtorEq,Nat.reduceEqDiff,Nat.reduceLT,Nat.reduceLeDiff,Nat.reduceAdd,Nat.reduceMul,Nat.reduceSub,Nat.reduceBEq,Int.reduceToNat,cond_true,cond_false,eq_self,beq_self_eq_true,hl,hl2,f1,f2,f3,f4,fv1,fv2,g0,g1,g7,g9,g13,g14,g15,zFx wf,zHx wf,zBv wf,zFw wf,zAy wf,zAx,tEvZ37,zIy,zIz,zHv,zHw,zAv wf];first|(refine zCw (Q:=Q_) (fun hp_=>?_) (fun hp_=>?_) <;> first|(exfalso;omega)|(refine hQ_ _ _ ?_;clear hQ_ Q_))|(refine zBw (Q:=Q_) (fun hp_=>?_) (fun hp_=>?_) <;> first|(exfalso;omega)|(refine hQ_ _ _ ?_;clear hQ_ Q_))|(refine hQ_ _ _ ?_;clear hQ_ Q_)))
  | (refine zHz fun K_ hK_=>?_;simp (disch:=omega) only [zFv,zAz,zHy,↓reduceIte,reduceCtorEq,Nat.reduceEqDiff,Nat.reduceLT];refine hK_ _ ?_;clear hK_ K_)))
                exact zJv (q+1) (by omega) ⟨by omega,by omega,by simp only [zAz,↓reduceIte,reduceCtorEq,Nat.reduceEqDiff];exact g0,by simp only [zAz,↓reduceIte,reduceCtorEq,Nat.reduceEqDiff];exact g1,by simp only [zAz,↓reduceIte,reduceCtorEq,Nat.reduceEqDiff];exact g7,by simp only [zAz,↓reduceIte,reduceCtorEq,Nat.reduceEqDiff];exact g9,by simp only [zAz,↓reduceIte,reduceCtorEq,Nat.reduceEqDiff];rfl,rfl,rfl⟩
            · exact ⟨Nat.zero_le _,by simp only [zAz,↓reduceIte,reduceCtorEq,Nat.reduceEqDiff];exact g0,by simp only [zAz,↓reduceIte,reduceCtorEq,Nat.reduceEqDiff];exact g1,by simp only [zAz,↓reduceIte,reduceCtorEq,Nat.reduceEqDiff];exact g7,by simp only [zAz,↓reduceIte,reduceCtorEq,Nat.reduceEqDiff];exact g9,by simp only [zAz,↓reduceIte,reduceCtorEq,Nat.reduceEqDiff];exact g13,by simp only [zAz,↓reduceIte,reduceCtorEq,Nat.reduceEqDiff];try rfl,by simp only [zAz,↓reduceIte,reduceCtorEq,Nat.reduceEqDiff];try rfl,rfl,rfl⟩
          · have hqe:q=p:=by omega
            subst hqe
            (repeat' (first
  | (with_reducible first|refine zJx ?_|refine zGw ?_|refine zFz ?_|refine zEv ?_|refine zFy ?_|refine zJw ?_|refine zGv ?_|refine zCz ?_|refine zDw ?_|refine zCy ?_|refine zCv ?_|refine zEx ?_|refine zDz ?_|refine zCx ?_|refine zBx ?_|refine zEz ?_|refine zEy ?_|refine zAw ?_|refine zBy ?_)
  | refine zDy ?_|refine zEw rfl ?_|refine zIv ?_|refine zJy ?_
  | ((first|refine zGx rfl rfl rfl rfl rfl fun K_ hK_=>?_|refine zGy rfl rfl rfl rfl rfl fun K_ hK_=>?_);simp only [zAz,zDx,zGz,↓reduceIte,reduceCtorEq,Nat.reduceEqDiff,Bool.not_true,Bool.not_false];refine hK_ _ ?_;clear hK_ K_)
  | refine zDv (by decide) ?_
  | ((try first|refine zKy rfl rfl rfl ?_|refine zIw rfl rfl ?_|refine zKx rfl rfl rfl ?_|refine zJz rfl rfl ?_);(refine zIx fun Q_ hQ_=>?_;simp (disch:=first|omega|(simp only [List.length_cons,List.length_nil,List.length_append];omega)) only [bb,bp,zKv,↓reduceIte,reduceCtorEq,Nat.reduceEqDiff,Nat.reduceLT,Nat.reduceLeDiff,Nat.reduceAdd,Nat.reduceMul,Nat.reduceSub,Nat.reduceBEq,Int.reduceToNat,cond_true,cond_false,eq_self,beq_self_eq_true,hl,hl2,f1,f2,f3,f4,fv1,fv2,g0,g1,g7,g9,g13,zFx wf,zHx wf,zBv wf,zFw wf,zAy wf,zAx,tEvZ37,zIy,zIz,zHv,zHw,zAv wf];first|(refine zCw (Q:=Q_) (fun hp_=>?_) (fun hp_=>?_) <;> first|(exfalso;omega)|(refine hQ_ _ _ ?_;clear hQ_ Q_))|(refine zBw (Q:=Q_) (fun hp_=>?_) (fun hp_=>?_) <;> first|(exfalso;omega)|(refine hQ_ _ _ ?_;clear hQ_ Q_))|(refine hQ_ _ _ ?_;clear hQ_ Q_)|(refine zOv (works _) ?_;refine hQ_ _ _ ?_;clear hQ_ Q_)))
  | (refine zHz fun K_ hK_=>?_;simp (disch:=omega) only [zFv,zAz,zHy,↓reduceIte,reduceCtorEq,Nat.reduceEqDiff,Nat.reduceLT];refine hK_ _ ?_;clear hK_ K_)))
            all_goals (refine zKw _ _ rfl (ret1 (by decide)) ?_;simp only [zAz,↓reduceIte,reduceCtorEq,Nat.reduceEqDiff];refine zLy rfl (by omega) ?_)
            all_goals exact ⟨rfl,rfl⟩
        · exact ⟨Nat.le_refl _,hp0,by simp only [zAz,↓reduceIte,reduceCtorEq,Nat.reduceEqDiff];exact g0,by simp only [zAz,↓reduceIte,reduceCtorEq,Nat.reduceEqDiff];exact g1,by simp only [zAz,↓reduceIte,reduceCtorEq,Nat.reduceEqDiff];exact g7,by simp only [zAz,↓reduceIte,reduceCtorEq,Nat.reduceEqDiff];exact g9,by simp only [zAz,↓reduceIte,reduceCtorEq,Nat.reduceEqDiff];try rfl,rfl,rfl⟩
    · exact ⟨Nat.zero_le _,by simp only [zAz,↓reduceIte,reduceCtorEq,Nat.reduceEqDiff],by simp only [zAz,↓reduceIte,reduceCtorEq,Nat.reduceEqDiff],by simp only [zAz,↓reduceIte,reduceCtorEq,Nat.reduceEqDiff],by simp only [zAz,↓reduceIte,reduceCtorEq,Nat.reduceEqDiff],by simp only [zAz,↓reduceIte,reduceCtorEq,Nat.reduceEqDiff],by simp only [zAz,↓reduceIte,reduceCtorEq,Nat.reduceEqDiff];try rfl,rfl,rfl⟩
  · have hp0' : ¬ (0:Int)<(xs.length:Int):=by omega
    (repeat' (first
  | (with_reducible first|refine zJx ?_|refine zGw ?_|refine zFz ?_|refine zEv ?_|refine zFy ?_|refine zJw ?_|refine zGv ?_|refine zCz ?_|refine zDw ?_|refine zCy ?_|refine zCv ?_|refine zEx ?_|refine zDz ?_|refine zCx ?_|refine zBx ?_|refine zEz ?_|refine zEy ?_|refine zAw ?_|refine zBy ?_)
  | refine zDy ?_|refine zEw rfl ?_|refine zIv ?_|refine zJy ?_
  | ((first|refine zGx rfl rfl rfl rfl rfl fun K_ hK_=>?_|refine zGy rfl rfl rfl rfl rfl fun K_ hK_=>?_);simp only [zAz,zDx,zGz,↓reduceIte,reduceCtorEq,Nat.reduceEqDiff,Bool.not_true,Bool.not_false];refine hK_ _ ?_;clear hK_ K_)
  | refine zDv (by decide) ?_
  | ((try first|refine zKy rfl rfl rfl ?_|refine zIw rfl rfl ?_|refine zKx rfl rfl rfl ?_|refine zJz rfl rfl ?_);(refine zIx fun Q_ hQ_=>?_;simp (disch:=first|omega|(simp only [List.length_cons,List.length_nil,List.length_append];omega)) only [bb,bp,zKv,↓reduceIte,reduceCtorEq,Nat.reduceEqDiff,Nat.reduceLT,Nat.reduceLeDiff,Nat.reduceAdd,Nat.reduceMul,Nat.reduceSub,Nat.reduceBEq,Int.reduceToNat,cond_true,cond_false,eq_self,beq_self_eq_true,hl,hl2,hlv,hp0',hsh,hpmax,hp1,hmany,conv_u8 hkI,f1,f2,f3,f4,fv1,fv2,zFx wf,zHx wf,zBv wf,zFw wf,zAy wf,zAx,tEvZ37,zIy,zIz,zHv,zHw,zAv wf];first|(refine zCw (Q:=Q_) (fun hp_=>?_) (fun hp_=>?_) <;> first|(exfalso;omega)|(refine hQ_ _ _ ?_;clear hQ_ Q_))|(refine zBw (Q:=Q_) (fun hp_=>?_) (fun hp_=>?_) <;> first|(exfalso;omega)|(refine hQ_ _ _ ?_;clear hQ_ Q_))|(refine hQ_ _ _ ?_;clear hQ_ Q_)|(refine zOv (cf1 _ _ (by first|omega|(simp only [List.length_append,List.length_cons,List.length_nil];omega))) ?_;refine hQ_ _ _ ?_;clear hQ_ Q_)|(refine zOv (cf2 _ _ (by first|omega|(simp only [List.length_append,List.length_cons,List.length_nil];omega))) ?_;refine hQ_ _ _ ?_;clear hQ_ Q_)|(refine zOv (cp _ _ (by first|omega|(simp only [List.length_append,List.length_cons,List.length_nil];omega))) ?_;refine hQ_ _ _ ?_;clear hQ_ Q_)|(refine zOv (e) ?_;refine hQ_ _ _ ?_;clear hQ_ Q_)))
  | (refine zHz fun K_ hK_=>?_;simp (disch:=omega) only [zFv,zAz,zHy,↓reduceIte,reduceCtorEq,Nat.reduceEqDiff,Nat.reduceLT];refine hK_ _ ?_;clear hK_ K_)))
    refine zOw (α:=Nat) (fun (i:Nat) f d h'=>i≤300∧f 0=a∧f 1=b∧f 7=ii (p:Int)∧f 9=v∧f 10=ii (kn:Int)∧f 11=ii (i:Int)∧d=[]∧h'=X h M h.clock) (fun i=>300 - i) ?_ 301 0 (by omega) ?_
    · rintro i f d h' ⟨hi,g0,g1,g7,g9,g10,g11,rfl,rfl⟩
      by_cases hlt:i<300
      · obtain ⟨id1,off1,hix1,hld1⟩:=hget i (by omega)
        obtain ⟨id2,off2,hix2,hld2⟩:=hget (i+p) (by omega)
        rw [hbits i] at hld2
        have hip:(i:Int)+(p:Int)=((i+p:Nat):Int):=by omega
        have hv0:(0:Int)≤(((m i).toNat:Nat):Int)∧(((m i).toNat:Nat):Int)≤1:=by cases m i <;> simp
        generalize hv1:(((m i).toNat:Nat):Int)=x1 at *
        have hld1 : ∀ w,load1 id1 off1 (X h M w)=some (ii x1):=fun w=>by rw [hld1 w,← hv1]
        have hld2 : ∀ w,load1 id2 off2 (X h M w)=some (ii x1):=fun w=>by rw [hld2 w,← hv1]
        (repeat' (first
  | (with_reducible first|refine zJx ?_|refine zGw ?_|refine zFz ?_|refine zEv ?_|refine zFy ?_|refine zJw ?_|refine zGv ?_|refine zCz ?_|refine zDw ?_|refine zCy ?_|refine zCv ?_|refine zEx ?_|refine zDz ?_|refine zCx ?_|refine zBx ?_|refine zEz ?_|refine zEy ?_|refine zAw ?_|refine zBy ?_)
  | refine zDy ?_|refine zEw rfl ?_|refine zIv ?_|refine zJy ?_
  | ((first|refine zGx rfl rfl rfl rfl rfl fun K_ hK_=>?_|refine zGy rfl rfl rfl rfl rfl fun K_ hK_=>?_);simp only [zAz,zDx,zGz,↓reduceIte,reduceCtorEq,Nat.reduceEqDiff,Bool.not_true,Bool.not_false];refine hK_ _ ?_;clear hK_ K_)
  | refine zDv (by decide) ?_
  | ((try first|refine zKy rfl rfl rfl ?_|refine zIw rfl rfl ?_|refine zKx rfl rfl rfl ?_|refine zJz rfl rfl ?_);(refine zIx fun Q_ hQ_=>?_;simp (disch:=first|omega|(simp only [List.length_cons,List.length_nil,List.length_append];omega)) only [bb,bp,zKv,↓reduceIte,reduceCtorEq,Nat.reduceEqDiff,Nat.reduceLT,Nat.reduceLeDiff,Nat.reduceAdd,Nat.reduceMul,Nat.reduceSub,Nat.reduceBEq,Int.reduceToNat,cond_true,cond_false,eq_self,beq_self_eq_true,f1,f2,f3,f4,fv1,fv2,g0,g1,g7,g9,g10,g11,zFx wf,zHx wf,zBv wf,zFw wf,zAy wf,zAx,tEvZ37,zIy,zIz,zHv,zHw,zAv wf];first|(refine zCw (Q:=Q_) (fun hp_=>?_) (fun hp_=>?_) <;> first|(exfalso;omega)|(refine hQ_ _ _ ?_;clear hQ_ Q_))|(refine zBw (Q:=Q_) (fun hp_=>?_) (fun hp_=>?_) <;> first|(exfalso;omega)|(refine hQ_ _ _ ?_;clear hQ_ Q_))|(refine hQ_ _ _ ?_;clear hQ_ Q_)))
  | (refine zHz fun K_ hK_=>?_;simp (disch:=omega) only [zFv,zAz,zHy,↓reduceIte,reduceCtorEq,Nat.reduceEqDiff,Nat.reduceLT];refine hK_ _ ?_;clear hK_ K_)))
        refine zPy [.no,.no,.no,.no,.no,.no,.no,.no,.no,.no,.full] (by kernel_rfl) ?_
        (repeat' (first
  | (with_reducible first|refine zJx ?_|refine zGw ?_|refine zFz ?_|refine zEv ?_|refine zFy ?_|refine zJw ?_|refine zGv ?_|refine zCz ?_|refine zDw ?_|refine zCy ?_|refine zCv ?_|refine zEx ?_|refine zDz ?_|refine zCx ?_|refine zBx ?_|refine zEz ?_|refine zEy ?_|refine zAw ?_|refine zBy ?_)
  | refine zDy ?_|refine zEw rfl ?_|refine zIv ?_|refine zJy ?_
  | ((first|refine zGx rfl rfl rfl rfl rfl fun K_ hK_=>?_|refine zGy rfl rfl rfl rfl rfl fun K_ hK_=>?_);simp only [zAz,zDx,zGz,↓reduceIte,reduceCtorEq,Nat.reduceEqDiff,Bool.not_true,Bool.not_false];refine hK_ _ ?_;clear hK_ K_)
  | refine zDv (by decide) ?_
  | ((try first|refine zKy rfl rfl rfl ?_|refine zIw rfl rfl ?_|refine zKx rfl rfl rfl ?_|refine zJz rfl rfl ?_);(refine zIx fun Q_ hQ_=>?_;simp (disch:=first|omega|(simp only [List.length_cons,List.length_nil,List.length_append];omega)) only [bb,bp,zKv,↓reduceIte,reduceCtorEq,Nat.reduceEqDiff,Nat.reduceLT,Nat.reduceLeDiff,Nat.reduceAdd,Nat.reduceMul,Nat.reduceSub,Nat.reduceBEq,Int.reduceToNat,cond_true,cond_false,eq_self,beq_self_eq_true,f1,f2,f3,f4,fv1,fv2,g0,g1,g7,g9,g10,g11,hip,hix1,hld1,hix2,hld2,zFx wf,tEvZ37,zIy,zIz,zHv,zHw,zAv wf];first|(refine zCw (Q:=Q_) (fun hp_=>?_) (fun hp_=>?_) <;> first|(exfalso;omega)|(refine hQ_ _ _ ?_;clear hQ_ Q_))|(refine zBw (Q:=Q_) (fun hp_=>?_) (fun hp_=>?_) <;> first|(exfalso;omega)|(refine hQ_ _ _ ?_;clear hQ_ Q_))|(refine hQ_ _ _ ?_;clear hQ_ Q_)))
  | (refine zHz fun K_ hK_=>?_;simp (disch:=omega) only [zFv,zAz,zHy,↓reduceIte,reduceCtorEq,Nat.reduceEqDiff,Nat.reduceLT];refine hK_ _ ?_;clear hK_ K_)))
        exact zJv (i+1) (by omega) ⟨hlt,by simp only [zAz,↓reduceIte,reduceCtorEq,Nat.reduceEqDiff];exact g0,by simp only [zAz,↓reduceIte,reduceCtorEq,Nat.reduceEqDiff];exact g1,by simp only [zAz,↓reduceIte,reduceCtorEq,Nat.reduceEqDiff];exact g7,by simp only [zAz,↓reduceIte,reduceCtorEq,Nat.reduceEqDiff];exact g9,by simp only [zAz,↓reduceIte,reduceCtorEq,Nat.reduceEqDiff];exact g10,by simp only [zAz,↓reduceIte,reduceCtorEq,Nat.reduceEqDiff];rfl,rfl,rfl⟩
      · have hie:i=300:=by omega
        subst hie
        (repeat' (first
  | (with_reducible first|refine zJx ?_|refine zGw ?_|refine zFz ?_|refine zEv ?_|refine zFy ?_|refine zJw ?_|refine zGv ?_|refine zCz ?_|refine zDw ?_|refine zCy ?_|refine zCv ?_|refine zEx ?_|refine zDz ?_|refine zCx ?_|refine zBx ?_|refine zEz ?_|refine zEy ?_|refine zAw ?_|refine zBy ?_)
  | refine zDy ?_|refine zEw rfl ?_|refine zIv ?_|refine zJy ?_
  | ((first|refine zGx rfl rfl rfl rfl rfl fun K_ hK_=>?_|refine zGy rfl rfl rfl rfl rfl fun K_ hK_=>?_);simp only [zAz,zDx,zGz,↓reduceIte,reduceCtorEq,Nat.reduceEqDiff,Bool.not_true,Bool.not_false];refine hK_ _ ?_;clear hK_ K_)
  | refine zDv (by decide) ?_
  | ((try first|refine zKy rfl rfl rfl ?_|refine zIw rfl rfl ?_|refine zKx rfl rfl rfl ?_|refine zJz rfl rfl ?_);(refine zIx fun Q_ hQ_=>?_;simp (disch:=first|omega|(simp only [List.length_cons,List.length_nil,List.length_append];omega)) only [bb,bp,zKv,↓reduceIte,reduceCtorEq,Nat.reduceEqDiff,Nat.reduceLT,Nat.reduceLeDiff,Nat.reduceAdd,Nat.reduceMul,Nat.reduceSub,Nat.reduceBEq,Int.reduceToNat,cond_true,cond_false,eq_self,beq_self_eq_true,hl,hl2,hknI,hcut,f1,f2,f3,f4,fv1,fv2,fc1,fc2,g0,g1,g7,g9,g10,g11,zFx wf,zHx wf,zBv wf,zFw wf,zAy wf,zAx,tEvZ37,zIy,zIz,zHv,zHw,zAv wf];first|(refine zCw (Q:=Q_) (fun hp_=>?_) (fun hp_=>?_) <;> first|(exfalso;omega)|(refine hQ_ _ _ ?_;clear hQ_ Q_))|(refine zBw (Q:=Q_) (fun hp_=>?_) (fun hp_=>?_) <;> first|(exfalso;omega)|(refine hQ_ _ _ ?_;clear hQ_ Q_))|(refine hQ_ _ _ ?_;clear hQ_ Q_)|(refine zOv (cp2) ?_;refine hQ_ _ _ ?_;clear hQ_ Q_)))
  | (refine zHz fun K_ hK_=>?_;simp (disch:=omega) only [zFv,zAz,zHy,↓reduceIte,reduceCtorEq,Nat.reduceEqDiff,Nat.reduceLT];refine hK_ _ ?_;clear hK_ K_)))
        refine zOw (α:=Nat) (fun (q:Nat) f d h'=>1≤q∧q≤p∧f 0=a∧f 1=b∧f 7=ii (p:Int)∧f 9=v∧f 13=ii (q:Int)∧d=[]∧h'=X h M h.clock) (fun q=>p - q) ?_ (p+1) 1 (by omega) ?_
        · clear g0 g1 g7 g9 g10 g11
          rintro q f d h' ⟨hq1,hqp,g0,g1,g7,g9,g13,rfl,rfl⟩
          by_cases hlt:q<p
          · have hlt':(q:Int)<(p:Int):=by omega
            (repeat' (first
  | (with_reducible first|refine zJx ?_|refine zGw ?_|refine zFz ?_|refine zEv ?_|refine zFy ?_|refine zJw ?_|refine zGv ?_|refine zCz ?_|refine zDw ?_|refine zCy ?_|refine zCv ?_|refine zEx ?_|refine zDz ?_|refine zCx ?_|refine zBx ?_|refine zEz ?_|refine zEy ?_|refine zAw ?_|refine zBy ?_)
  | refine zDy ?_|refine zEw rfl ?_|refine zIv ?_|refine zJy ?_
  | ((first|refine zGx rfl rfl rfl rfl rfl fun K_ hK_=>?_|refine zGy rfl rfl rfl rfl rfl fun K_ hK_=>?_);simp only [zAz,zDx,zGz,↓reduceIte,reduceCtorEq,Nat.reduceEqDiff,Bool.not_true,Bool.not_false];refine hK_ _ ?_;clear hK_ K_)
  | refine zDv (by decide) ?_
  | ((try first|refine zKy rfl rfl rfl ?_|refine zIw rfl rfl ?_|refine zKx rfl rfl rfl ?_|refine zJz rfl rfl ?_);(refine zIx fun Q_ hQ_=>?_;simp (disch:=first|omega|(simp only [List.length_cons,List.length_nil,List.length_append];omega)) only [bb,bp,zKv,↓reduceIte,reduceCtorEq,Nat.reduceEqDiff,Nat.reduceLT,Nat.reduceLeDiff,Nat.reduceAdd,Nat.reduceMul,Nat.reduceSub,Nat.reduceBEq,Int.reduceToNat,cond_true,cond_false,eq_self,beq_self_eq_true,hl,hl2,hlt',f1,f2,f3,f4,fv1,fv2,g0,g1,g7,g9,g13,zFx wf,zHx wf,zBv wf,zFw wf,zAy wf,zAx,tEvZ37,zIy,zIz,zHv,zHw,zAv wf];first|(refine zCw (Q:=Q_) (fun hp_=>?_) (fun hp_=>?_) <;> first|(exfalso;omega)|(refine hQ_ _ _ ?_;clear hQ_ Q_))|(refine zBw (Q:=Q_) (fun hp_=>?_) (fun hp_=>?_) <;> first|(exfalso;omega)|(refine hQ_ _ _ ?_;clear hQ_ Q_))|(refine hQ_ _ _ ?_;clear hQ_ Q_)))
  | (refine zHz fun K_ hK_=>?_;simp (disch:=omega) only [zFv,zAz,zHy,↓reduceIte,reduceCtorEq,Nat.reduceEqDiff,Nat.reduceLT];refine hK_ _ ?_;clear hK_ K_)))
            refine zOw (α:=Nat) (fun (j:Nat) f d h'=>j≤xs.length∧f 0=a∧f 1=b∧f 7=ii (p:Int)∧f 9=v∧f 13=ii (q:Int)∧f 14 = .bool (allB m q j)∧f 15=ii (j:Int)∧d=[]∧h'=X h M h.clock) (fun j=>xs.length - j) ?_ (xs.length+1) 0 (by omega) ?_
            · clear g0 g1 g7 g9 g13
              rintro j f d h' ⟨hj,g0,g1,g7,g9,g13,g14,g15,rfl,rfl⟩
              by_cases hjl:j<xs.length
              · exact absurd hjl (by omega)
              · have hje:j=xs.length:=by omega
                subst hje
                have hal:allB m q xs.length=false:=allB_false (rep_not (T:=0) hL128 r1 (by omega) hlt)
                rw [hal] at g14
                (repeat' (first
  | (with_reducible first|refine zJx ?_|refine zGw ?_|refine zFz ?_|refine zEv ?_|refine zFy ?_|refine zJw ?_|refine zGv ?_|refine zCz ?_|refine zDw ?_|refine zCy ?_|refine zCv ?_|refine zEx ?_|refine zDz ?_|refine zCx ?_|refine zBx ?_|refine zEz ?_|refine zEy ?_|refine zAw ?_|refine zBy ?_)
  | refine zDy ?_|refine zEw rfl ?_|refine zIv ?_|refine zJy ?_
  | ((first|refine zGx rfl rfl rfl rfl rfl fun K_ hK_=>?_|refine zGy rfl rfl rfl rfl rfl fun K_ hK_=>?_);simp only [zAz,zDx,zGz,↓reduceIte,reduceCtorEq,Nat.reduceEqDiff,Bool.not_true,Bool.not_false];refine hK_ _ ?_;clear hK_ K_)
  | refine zDv (by decide) ?_
  | ((try first|refine zKy rfl rfl rfl ?_|refine zIw rfl rfl ?_|refine zKx rfl rfl rfl ?_|refine zJz rfl rfl ?_);(refine zIx fun Q_ hQ_=>?_;simp (disch:=first|omega|(simp only [List.length_cons,List.length_nil,List.length_append];omega)) only [bb,bp,zKv,↓reduceIte,reduceCtorEq,Nat.reduceEqDiff,Nat.reduceLT,Nat.reduceLeDiff,Nat.reduceAdd,Nat.reduceMul,Nat.reduceSub,Nat.reduceBEq,Int.reduceToNat,cond_true,cond_false,eq_self,beq_self_eq_true,hl,hl2,f1,f2,f3,f4,fv1,fv2,g0,g1,g7,g9,g13,g14,g15,zFx wf,zHx wf,zBv wf,zFw wf,zAy wf,zAx,tEvZ37,zIy,zIz,zHv,zHw,zAv wf];first|(refine zCw (Q:=Q_) (fun hp_=>?_) (fun hp_=>?_) <;> first|(exfalso;omega)|(refine hQ_ _ _ ?_;clear hQ_ Q_))|(refine zBw (Q:=Q_) (fun hp_=>?_) (fun hp_=>?_) <;> first|(exfalso;omega)|(refine hQ_ _ _ ?_;clear hQ_ Q_))|(refine hQ_ _ _ ?_;clear hQ_ Q_)))
  | (refine zHz fun K_ hK_=>?_;simp (disch:=omega) only [zFv,zAz,zHy,↓reduceIte,reduceCtorEq,Nat.reduceEqDiff,Nat.reduceLT];refine hK_ _ ?_;clear hK_ K_)))
                exact zJv (q+1) (by omega) ⟨by omega,by omega,by simp only [zAz,↓reduceIte,reduceCtorEq,Nat.reduceEqDiff];exact g0,by simp only [zAz,↓reduceIte,reduceCtorEq,Nat.reduceEqDiff];exact g1,by simp only [zAz,↓reduceIte,reduceCtorEq,Nat.reduceEqDiff];exact g7,by simp only [zAz,↓reduceIte,reduceCtorEq,Nat.reduceEqDiff];exact g9,by simp only [zAz,↓reduceIte,reduceCtorEq,Nat.reduceEqDiff];rfl,rfl,rfl⟩
            · exact ⟨Nat.zero_le _,by simp only [zAz,↓reduceIte,reduceCtorEq,Nat.reduceEqDiff];exact g0,by simp only [zAz,↓reduceIte,reduceCtorEq,Nat.reduceEqDiff];exact g1,by simp only [zAz,↓reduceIte,reduceCtorEq,Nat.reduceEqDiff];exact g7,by simp only [zAz,↓reduceIte,reduceCtorEq,Nat.reduceEqDiff];exact g9,by simp only [zAz,↓reduceIte,reduceCtorEq,Nat.reduceEqDiff];exact g13,by simp only [zAz,↓reduceIte,reduceCtorEq,Nat.reduceEqDiff];try rfl,by simp only [zAz,↓reduceIte,reduceCtorEq,Nat.reduceEqDiff];try rfl,rfl,rfl⟩
          · have hqe:q=p:=by omega
            subst hqe
            (repeat' (first
  | (with_reducible first|refine zJx ?_|refine zGw ?_|refine zFz ?_|refine zEv ?_|refine zFy ?_|refine zJw ?_|refine zGv ?_|refine zCz ?_|refine zDw ?_|refine zCy ?_|refine zCv ?_|refine zEx ?_|refine zDz ?_|refine zCx ?_|refine zBx ?_|refine zEz ?_|refine zEy ?_|refine zAw ?_|refine zBy ?_)
  | refine zDy ?_|refine zEw rfl ?_|refine zIv ?_|refine zJy ?_
  | ((first|refine zGx rfl rfl rfl rfl rfl fun K_ hK_=>?_|refine zGy rfl rfl rfl rfl rfl fun K_ hK_=>?_);simp only [zAz,zDx,zGz,↓reduceIte,reduceCtorEq,Nat.reduceEqDiff,Bool.not_true,Bool.not_false];refine hK_ _ ?_;clear hK_ K_)
  | refine zDv (by decide) ?_
  | ((try first|refine zKy rfl rfl rfl ?_|refine zIw rfl rfl ?_|refine zKx rfl rfl rfl ?_|refine zJz rfl rfl ?_);(refine zIx fun Q_ hQ_=>?_;simp (disch:=first|omega|(simp only [List.length_cons,List.length_nil,List.length_append];omega)) only [bb,bp,zKv,↓reduceIte,reduceCtorEq,Nat.reduceEqDiff,Nat.reduceLT,Nat.reduceLeDiff,Nat.reduceAdd,Nat.reduceMul,Nat.reduceSub,Nat.reduceBEq,Int.reduceToNat,cond_true,cond_false,eq_self,beq_self_eq_true,hl,hl2,f1,f2,f3,f4,fv1,fv2,g0,g1,g7,g9,g13,zFx wf,zHx wf,zBv wf,zFw wf,zAy wf,zAx,tEvZ37,zIy,zIz,zHv,zHw,zAv wf];first|(refine zCw (Q:=Q_) (fun hp_=>?_) (fun hp_=>?_) <;> first|(exfalso;omega)|(refine hQ_ _ _ ?_;clear hQ_ Q_))|(refine zBw (Q:=Q_) (fun hp_=>?_) (fun hp_=>?_) <;> first|(exfalso;omega)|(refine hQ_ _ _ ?_;clear hQ_ Q_))|(refine hQ_ _ _ ?_;clear hQ_ Q_)|(refine zOv (works _) ?_;refine hQ_ _ _ ?_;clear hQ_ Q_)))
  | (refine zHz fun K_ hK_=>?_;simp (disch:=omega) only [zFv,zAz,zHy,↓reduceIte,reduceCtorEq,Nat.reduceEqDiff,Nat.reduceLT];refine hK_ _ ?_;clear hK_ K_)))
            all_goals (refine zKw _ _ rfl (ret1 (by decide)) ?_;simp only [zAz,↓reduceIte,reduceCtorEq,Nat.reduceEqDiff];refine zLy rfl (by omega) ?_)
            all_goals exact ⟨rfl,rfl⟩
        · exact ⟨Nat.le_refl _,hp0,by simp only [zAz,↓reduceIte,reduceCtorEq,Nat.reduceEqDiff];exact g0,by simp only [zAz,↓reduceIte,reduceCtorEq,Nat.reduceEqDiff];exact g1,by simp only [zAz,↓reduceIte,reduceCtorEq,Nat.reduceEqDiff];exact g7,by simp only [zAz,↓reduceIte,reduceCtorEq,Nat.reduceEqDiff];exact g9,by simp only [zAz,↓reduceIte,reduceCtorEq,Nat.reduceEqDiff];try rfl,rfl,rfl⟩
    · exact ⟨Nat.zero_le _,by simp only [zAz,↓reduceIte,reduceCtorEq,Nat.reduceEqDiff],by simp only [zAz,↓reduceIte,reduceCtorEq,Nat.reduceEqDiff],by simp only [zAz,↓reduceIte,reduceCtorEq,Nat.reduceEqDiff],by simp only [zAz,↓reduceIte,reduceCtorEq,Nat.reduceEqDiff],by simp only [zAz,↓reduceIte,reduceCtorEq,Nat.reduceEqDiff],by simp only [zAz,↓reduceIte,reduceCtorEq,Nat.reduceEqDiff];try rfl,rfl,rfl⟩
theorem lawPeriod (xs ys:List Int) (k:Int) (hk:0≤k∧k≤255) (a b:AV) (hcb:CapU 1 b) (h:H) (wf:Wf h) (hs:Sl h a 1 xs.length (xs.map ii)) (ht:Sl h b 1 ys.length (ys.map ii)) :
    (om Try.prog KK).call (.fn 13 [a,b,.int .u8 k]) h = .ok (.bool true) h:=by
  by_cases hin:errB xs=0∧errB ys=0∧ys.length=xs.length∧xs.length≤10
  · obtain ⟨hx,hy,hll,h10⟩:=hin
    cases hb:backB (bN (bitL xs)) xs.length
    · exact lawPeriodNone xs ys k a b h wf hs ht hx hy hll h10 hb
    · exact lawPeriodOK xs ys k hk a b hcb h wf hs ht hx hy hll h10 hb
  · exact lawPeriodOut xs ys k a b h wf hs ht hin
end Go.Proofs.Ytmincoafjnnkpaa
end

section
namespace Go.Proofs.Ytmincoafjnnkpaa.wavePeriod
open Go.ChangeShapes Go.WideShapes Go.ChangeAt Go.RowKit Go.Ev
set_option maxRecDepth 100000
set_option maxHeartbeats 0

theorem contract (H:Type) (enc:TypeId × Value→H) (W:World) (base:Nat) (args:Array Value) (ds gs:List (DataW H)) (before:List MemPlace) (hval : ∀ (j:Nat) t v,Try.f13.params[j]? = some t→args[j]? = some v→Value.okWide Try.prog W .any base t v)
    (hW:DataW.Whole enc Try.prog Try.f13.params.toList Rows.wavePeriodSpec.vars false W args.toList ds gs before) :
    Calls Try.prog 13 args W fun e W'=>∃ v,e = .returned v∧Rows.wavePeriodSpec.post enc Try.prog Try.f13 false true false false W args v W':=by
  have hW':=hW
  obtain ⟨p,q,hA0,hV,rfl,hfz,hnd⟩:=hW
  have hA:DataW.TrodAll enc Try.prog W 0 (fun _=>true) true Try.f13.params.toList args.toList ds p:=hA0
  rw [Try.params13] at hA hval
  obtain ⟨v0,v1,v2,d0,d1,d2,p0,p1,p2,rfl,rfl,rfl,⟨n0,h0⟩,⟨n1,h1⟩,⟨n2,h2⟩⟩:=trodAll_three hA
  have k0:=(xMv (P:=Try.prog) Try.underlying22 (fun _ e=>by cases e) (fun _ _ e=>by cases e) (hval 0 22 v0 rfl rfl))
  rw [slice_cells Try.underlying22 k0] at h0
  obtain ⟨a0,ls0,w0,q0,x0⟩:=ints_in k0 h0
  have k1:=(xMv (P:=Try.prog) Try.underlying22 (fun _ e=>by cases e) (fun _ _ e=>by cases e) (hval 1 22 v1 rfl rfl))
  rw [slice_cells Try.underlying22 k1] at h1
  obtain ⟨a1,ls1,w1,q1,x1⟩:=ints_in k1 h1
  obtain ⟨r2,hz2,hr2⟩:=okWideIntIn Try.underlying5 (xMv (P:=Try.prog) Try.underlying5 (fun _ e=>by cases e) (fun _ _ e=>by cases e) (hval 2 5 v2 rfl rfl))
  subst hz2
  have walk:=lawPeriod ls0 ls1 r2 hr2 a0 a1 (q1.capu 1) (startW W) (startW_wf W) x0 x1
  have hargs:VL (startWR W) [a0,a1,.int .u8 r2] (#[v0,v1,.int .u8 r2]:Array Value).toList:=(.cons _ _ _ _ w0 (.cons _ _ _ _ w1 (.cons _ _ _ _ (.int _ _) .nil)))
  refine (startW_true (P:=Try.prog) mixed (K:=KK) (fun c hc=>by
    have:c=cW:=List.mem_singleton.1 hc
    rw [this];exact cW_ok) walk hargs).mono fun e W' ⟨he,hgr,hs⟩=>?_
  subst he
  refine ⟨_,rfl,law_post laidOut (by
    rw [Try.params13]
    intro t ht
    rcases List.mem_cons.1 ht with rfl|ht
    · exact ⟨by kernel_rfl,of_decide_eq_true (by kernel_rfl)⟩
    rcases List.mem_cons.1 ht with rfl|ht
    · exact ⟨by kernel_rfl,of_decide_eq_true (by kernel_rfl)⟩
    rcases List.mem_cons.1 ht with rfl|ht
    · exact ⟨by kernel_rfl,of_decide_eq_true (by kernel_rfl)⟩
    cases ht) rfl (by kernel_rfl) Try.underlying4 (fun gs' ⟨q',hq⟩=>?_) hW' hgr hs⟩
  obtain ⟨rfl,_⟩:=trodVars_none hq
  exact ⟨rfl,rfl,rfl⟩

theorem lifted (os:Os) (started:os.Started) (H:Type) (enc:TypeId × Value→H) :
    ReturnsInHanded {} Try.checked os 13 .any (Rows.wavePeriodSpec.pre6 enc Try.prog Try.f13 Rows.wavePeriodRow.domain false) (Rows.wavePeriodSpec.post enc Try.prog Try.f13 false true false false):=by
  refine returnsInHanded_of_change (C:=Try.checked) own started (by kernel_rfl) Try.func13
    (ChangeSpec.witness6 (enc:=enc) (C:=Try.checked) false ⟨#[],#[.slice none 0 0,.slice none 0 0,.int .u8 0],[]⟩ 8 (by kernel_rfl) (by kernel_rfl) (by kernel_rfl) (by kernel_rfl)) ?_
  intro W base args ds gs before hval hW _ _
  exact contract H enc W base args ds gs before hval hW

theorem holds :Rows.WavePeriodSaid:=
  OpenClaim.holds_of_wide 13 Try.f13 rfl rfl rfl rfl rfl rfl rfl ⟨rfl,rfl,rfl,rfl,rfl⟩ rfl rfl rfl rfl rfl (by kernel_rfl) Try.func13 (by kernel_rfl)
    (of_decide_eq_true (by kernel_rfl)) (by unfold Func.isWrapper;first|(rw [if_pos (by decide +kernel)];kernel_rfl)|(rw [if_neg (by decide +kernel)];exact ⟨rfl,rfl⟩))
    (fun os started H enc _=>lifted os started H enc)
end Go.Proofs.Ytmincoafjnnkpaa.wavePeriod
end
