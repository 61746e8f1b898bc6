import Derived.Test.YtmincoafjnnkpaawvM5
import Derived.Test.YtmincoafjnnkpaaChecked
import Derived.KernelRfl
import Derived.Test.YtmincoafjnnkpaaRows
import Derived.WalkKit
import Derived.ProofKit
import Derived.OpenShut
set_option linter.all false
section
namespace Go.Proofs.Ytmincoafjnnkpaa
open Go.Ev
set_option maxRecDepth 100000
theorem ia_2 :isAggB Try.prog 2=some false:=by kernel_rfl
theorem sz_2 :sizeE Try.prog 2=some 1:=by kernel_rfl
theorem ze_2 :zeroE Try.prog 2=some (.int .i64 (0)):=by kernel_rfl
theorem ia_3 :isAggB Try.prog 3=some false:=by kernel_rfl
theorem sz_3 :sizeE Try.prog 3=some 1:=by kernel_rfl
theorem ze_3 :zeroE Try.prog 3=some (.int .i64 (0)):=by kernel_rfl
theorem el_3 :El Try.prog 3 1 8 (.int .i64 (0)):=⟨by kernel_rfl,by kernel_rfl,rfl⟩
theorem ia_4 :isAggB Try.prog 4=some false:=by kernel_rfl
theorem sz_4 :sizeE Try.prog 4=some 1:=by kernel_rfl
theorem ze_4 :zeroE Try.prog 4=some (.bool false):=by kernel_rfl
theorem ia_5 :isAggB Try.prog 5=some false:=by kernel_rfl
theorem sz_5 :sizeE Try.prog 5=some 1:=by kernel_rfl
theorem ze_5 :zeroE Try.prog 5=some (.int .u8 (0)):=by kernel_rfl
theorem yPy :isAggB Try.prog 22=some false:=by kernel_rfl
theorem zQv :sizeE Try.prog 22=some 1:=by kernel_rfl
theorem zWz :zeroE Try.prog 22=some (.nils):=by kernel_rfl
theorem zIy (n:Nat) (parts:List (Nat × AV)) (h:H):buildSliceE Try.prog 22 n parts h=bif Nat.ble (n * 1) 16777216 && Nat.beq 1 1 then (match fillE (fun i=>some (i * 1,1)) (zerosE [.int .i64 (0)] n) parts with|some cs=>newSlice 3 cs n n 1 h|none=>.no) else .no:=by kernel_rfl
theorem el_22 :El Try.prog 22 1 24 (.nils):=⟨by kernel_rfl,by kernel_rfl,rfl⟩
theorem zQy :idxKind Try.prog 22=some (none,1):=by kernel_rfl
theorem yTx :Try.prog.underlying 22=some (.slice 3):=Try.underlying22
theorem zRy :notInt Try.prog 22=true:=by kernel_rfl
theorem yPz :isAggB Try.prog 24=some false:=by kernel_rfl
theorem zYw :sizeE Try.prog 24=some 1:=by kernel_rfl
theorem zVv :zeroE Try.prog 24=some (.int .i64 (0)):=by kernel_rfl
theorem yOv :isAggB Try.prog 25=some false:=by kernel_rfl
theorem zYx :sizeE Try.prog 25=some 1:=by kernel_rfl
theorem yOw :isAggB Try.prog 33=some true:=by kernel_rfl
theorem zYy :sizeE Try.prog 33=some 2:=by kernel_rfl
theorem zVw :zeroE Try.prog 33=some (.agg [.nils,.int .i64 (0)]):=by kernel_rfl
theorem zOy :fieldOff Try.prog 33 0=some 0:=by kernel_rfl
theorem zOz :fieldOff Try.prog 33 1=some 1:=by kernel_rfl
theorem yQx (parts:List (Nat × AV)):buildE Try.prog 33 parts=match fillE (fun i=>[(0,1),(1,1)][i]?) [.nils,.int .i64 (0)] parts with|some cs=>some (.agg cs)|none=>none:=by kernel_rfl
theorem yOx :isAggB Try.prog 34=some true:=by kernel_rfl
theorem zYz :sizeE Try.prog 34=some 2:=by kernel_rfl
theorem zVx :zeroE Try.prog 34=some (.agg [.nils,.int .i64 (0)]):=by kernel_rfl
theorem zNv :fieldOff Try.prog 34 0=some 0:=by kernel_rfl
theorem zNw :fieldOff Try.prog 34 1=some 1:=by kernel_rfl
theorem yQy (parts:List (Nat × AV)):buildE Try.prog 34 parts=match fillE (fun i=>[(0,1),(1,1)][i]?) [.nils,.int .i64 (0)] parts with|some cs=>some (.agg cs)|none=>none:=by kernel_rfl
theorem yOy :isAggB Try.prog 42=some false:=by kernel_rfl
theorem zXv :sizeE Try.prog 42=some 1:=by kernel_rfl
theorem zVy :zeroE Try.prog 42=some (.nils):=by kernel_rfl
theorem zIz (n:Nat) (parts:List (Nat × AV)) (h:H):buildSliceE Try.prog 42 n parts h=bif Nat.ble (n * 1) 16777216 && Nat.beq 1 1 then (match fillE (fun i=>some (i * 1,1)) (zerosE [.nils] n) parts with|some cs=>newSlice 22 cs n n 1 h|none=>.no) else .no:=by kernel_rfl
theorem zSv :idxKind Try.prog 42=some (none,1):=by kernel_rfl
theorem un_42 :Try.prog.underlying 42=some (.slice 22):=Try.underlying42
theorem zSy :notInt Try.prog 42=true:=by kernel_rfl
theorem zRv :isAggB Try.prog 55=some false:=by kernel_rfl
theorem zRx :sizeE Try.prog 55=some 1:=by kernel_rfl
theorem zVz :zeroE Try.prog 55=some (.int .u64 (0)):=by kernel_rfl
theorem un_55 :Try.prog.underlying 55=some (.int .u64):=Try.underlying55
theorem yOz :isAggB Try.prog 57=some true:=by kernel_rfl
theorem zXw :sizeE Try.prog 57=some 2:=by kernel_rfl
theorem zUv :zeroE Try.prog 57=some (.agg [.int .u64 (0),.int .u64 (0)]):=by kernel_rfl
theorem yQz (parts:List (Nat × AV)):buildE Try.prog 57 parts=match fillE (fun i=>some (i * 1,1)) [.int .u64 (0),.int .u64 (0)] parts with|some cs=>some (.agg cs)|none=>none:=by kernel_rfl
theorem zSw :idxKind Try.prog 57=some (some 2,1):=by kernel_rfl
theorem un_57 :Try.prog.underlying 57=some (.array 2 55):=Try.underlying57
theorem yNv :isAggB Try.prog 59=some true:=by kernel_rfl
theorem zXx :sizeE Try.prog 59=some 3:=by kernel_rfl
theorem zUw :zeroE Try.prog 59=some (.agg [.int .u64 (0),.int .u64 (0),.int .i64 (0)]):=by kernel_rfl
theorem zNx :fieldOff Try.prog 59 0=some 0:=by kernel_rfl
theorem zNy :fieldOff Try.prog 59 1=some 2:=by kernel_rfl
theorem yPv (parts:List (Nat × AV)):buildE Try.prog 59 parts=match fillE (fun i=>[(0,2),(2,1)][i]?) [.int .u64 (0),.int .u64 (0),.int .i64 (0)] parts with|some cs=>some (.agg cs)|none=>none:=by kernel_rfl
theorem yNw :isAggB Try.prog 63=some false:=by kernel_rfl
theorem zXy :sizeE Try.prog 63=some 1:=by kernel_rfl
theorem zUx :zeroE Try.prog 63=some (.nils):=by kernel_rfl
theorem zHv (n:Nat) (parts:List (Nat × AV)) (h:H):buildSliceE Try.prog 63 n parts h=bif Nat.ble (n * 4) 16777216 && Nat.beq 4 4 then (match fillE (fun i=>some (i * 4,4)) (zerosE [.int .u64 (0),.int .u64 (0),.int .i64 (0),.int .i64 (0)] n) parts with|some cs=>newSlice 67 cs n n 4 h|none=>.no) else .no:=by kernel_rfl
theorem zQw :idxKind Try.prog 63=some (none,4):=by kernel_rfl
theorem un_63 :Try.prog.underlying 63=some (.slice 67):=Try.underlying63
theorem zRw :notInt Try.prog 63=true:=by kernel_rfl
theorem yNx :isAggB Try.prog 67=some true:=by kernel_rfl
theorem zQx :sizeE Try.prog 67=some 4:=by kernel_rfl
theorem zUy :zeroE Try.prog 67=some (.agg [.int .u64 (0),.int .u64 (0),.int .i64 (0),.int .i64 (0)]):=by kernel_rfl
theorem zNz :fieldOff Try.prog 67 0=some 0:=by kernel_rfl
theorem zMv :fieldOff Try.prog 67 1=some 3:=by kernel_rfl
theorem yPw (parts:List (Nat × AV)):buildE Try.prog 67 parts=match fillE (fun i=>[(0,3),(3,1)][i]?) [.int .u64 (0),.int .u64 (0),.int .i64 (0),.int .i64 (0)] parts with|some cs=>some (.agg cs)|none=>none:=by kernel_rfl
theorem el_67 :El Try.prog 67 4 32 (.agg [.int .u64 (0),.int .u64 (0),.int .i64 (0),.int .i64 (0)]):=⟨by kernel_rfl,by kernel_rfl,rfl⟩
theorem yNy :isAggB Try.prog 74=some false:=by kernel_rfl
theorem zXz :sizeE Try.prog 74=some 1:=by kernel_rfl
theorem zUz :zeroE Try.prog 74=some (.nilf):=by kernel_rfl
theorem yNz :isAggB Try.prog 78=some true:=by kernel_rfl
theorem zWv :sizeE Try.prog 78=some 2:=by kernel_rfl
theorem zTv :zeroE Try.prog 78=some (.agg [.int .u64 (0),.int .u64 (0)]):=by kernel_rfl
theorem zMw :fieldOff Try.prog 78 0=some 0:=by kernel_rfl
theorem yPx (parts:List (Nat × AV)):buildE Try.prog 78 parts=match fillE (fun i=>[(0,2)][i]?) [.int .u64 (0),.int .u64 (0)] parts with|some cs=>some (.agg cs)|none=>none:=by kernel_rfl
theorem yMv :isAggB Try.prog 85=some false:=by kernel_rfl
theorem zWw :sizeE Try.prog 85=some 1:=by kernel_rfl
theorem zTw :zeroE Try.prog 85=some (.nilf):=by kernel_rfl
theorem yMw :isAggB Try.prog 87=some false:=by kernel_rfl
theorem zWx :sizeE Try.prog 87=some 1:=by kernel_rfl
theorem zTx :zeroE Try.prog 87=some (.nilm):=by kernel_rfl
theorem un_87 :Try.prog.underlying 87=some (.map 78 4):=Try.underlying87
theorem yMx :isAggB Try.prog 90=some false:=by kernel_rfl
theorem zWy :sizeE Try.prog 90=some 1:=by kernel_rfl
theorem zTy :zeroE Try.prog 90=some (.nils):=by kernel_rfl
theorem zHw (n:Nat) (parts:List (Nat × AV)) (h:H):buildSliceE Try.prog 90 n parts h=bif Nat.ble (n * 2) 16777216 && Nat.beq 2 2 then (match fillE (fun i=>some (i * 2,2)) (zerosE [.int .u64 (0),.int .u64 (0)] n) parts with|some cs=>newSlice 57 cs n n 2 h|none=>.no) else .no:=by kernel_rfl
theorem zSx :idxKind Try.prog 90=some (none,2):=by kernel_rfl
theorem un_90 :Try.prog.underlying 90=some (.slice 57):=Try.underlying90
theorem yMy :plainB Try.prog 15=true:=by kernel_rfl
theorem yMz :plainB Try.prog 16=true:=by kernel_rfl
theorem yLv :plainB Try.prog 17=true:=by kernel_rfl
theorem yLw :plainB Try.prog 18=true:=by kernel_rfl
theorem yLx :plainB Try.prog 19=true:=by kernel_rfl
theorem yLy :plainB Try.prog 20=true:=by kernel_rfl
theorem yLz :plainB Try.prog 21=true:=by kernel_rfl
theorem yKv :plainB Try.prog 22=true:=by kernel_rfl
theorem yKw :plainB Try.prog 23=true:=by kernel_rfl
theorem yKx :plainB Try.prog 24=true:=by kernel_rfl
theorem yKy :plainB Try.prog 25=true:=by kernel_rfl
theorem yKz :plainB Try.prog 26=true:=by kernel_rfl
theorem yJv :plainB Try.prog 27=true:=by kernel_rfl
theorem yJw :plainB Try.prog 28=true:=by kernel_rfl
theorem yJx :plainB Try.prog 29=true:=by kernel_rfl
theorem yJy :plainB Try.prog 30=true:=by kernel_rfl
theorem yJz :plainB Try.prog 31=true:=by kernel_rfl
theorem yIv :plainB Try.prog 32=true:=by kernel_rfl
theorem yIw :plainB Try.prog 33=true:=by kernel_rfl
theorem yIx :plainB Try.prog 34=true:=by kernel_rfl
theorem yIy :plainB Try.prog 35=true:=by kernel_rfl
theorem yIz :plainB Try.prog 36=true:=by kernel_rfl
theorem yHv :plainB Try.prog 37=true:=by kernel_rfl
theorem yHw :plainB Try.prog 38=true:=by kernel_rfl
theorem yHx :plainB Try.prog 39=true:=by kernel_rfl
theorem yHy :plainB Try.prog 40=true:=by kernel_rfl
theorem yHz :plainB Try.prog 41=true:=by kernel_rfl
theorem yGv :plainB Try.prog 42=true:=by kernel_rfl
theorem yGw :plainB Try.prog 43=true:=by kernel_rfl
theorem yGx :plainB Try.prog 44=true:=by kernel_rfl
theorem yGy :plainB Try.prog 45=true:=by kernel_rfl
theorem yGz :plainB Try.prog 46=true:=by kernel_rfl
theorem yFv :plainB Try.prog 47=true:=by kernel_rfl
theorem yFw :plainB Try.prog 48=true:=by kernel_rfl
theorem yFx :plainB Try.prog 49=true:=by kernel_rfl
theorem yFy :plainB Try.prog 50=true:=by kernel_rfl
theorem yFz :plainB Try.prog 51=true:=by kernel_rfl
theorem yEv :plainB Try.prog 52=true:=by kernel_rfl
theorem yEw :plainB Try.prog 53=true:=by kernel_rfl
theorem yEx :plainB Try.prog 54=true:=by kernel_rfl
theorem yEy :plainB Try.prog 55=true:=by kernel_rfl
theorem yEz :plainB Try.prog 56=true:=by kernel_rfl
theorem yDv :plainB Try.prog 57=true:=by kernel_rfl
theorem yDw :plainB Try.prog 58=true:=by kernel_rfl
theorem yDx :plainB Try.prog 59=true:=by kernel_rfl
theorem yDy :plainB Try.prog 60=true:=by kernel_rfl
theorem yDz :plainB Try.prog 61=true:=by kernel_rfl
theorem yCv :plainB Try.prog 62=true:=by kernel_rfl
theorem yCw :plainB Try.prog 63=true:=by kernel_rfl
theorem yCx :plainB Try.prog 64=true:=by kernel_rfl
theorem yCy :plainB Try.prog 65=true:=by kernel_rfl
theorem yCz :plainB Try.prog 66=true:=by kernel_rfl
theorem zSz :plainB Try.prog 67=true:=by kernel_rfl
theorem yBv :plainB Try.prog 68=true:=by kernel_rfl
theorem yBw :plainB Try.prog 69=true:=by kernel_rfl
theorem yBx :plainB Try.prog 70=true:=by kernel_rfl
theorem yBy :plainB Try.prog 71=true:=by kernel_rfl
theorem yBz :plainB Try.prog 72=true:=by kernel_rfl
theorem yAv :plainB Try.prog 73=true:=by kernel_rfl
theorem yAw :plainB Try.prog 74=true:=by kernel_rfl
theorem yAx :plainB Try.prog 75=true:=by kernel_rfl
theorem yAy :plainB Try.prog 76=true:=by kernel_rfl
theorem yAz :plainB Try.prog 77=true:=by kernel_rfl
theorem zZv :plainB Try.prog 78=true:=by kernel_rfl
theorem zZw :plainB Try.prog 79=true:=by kernel_rfl
theorem zZx :plainB Try.prog 80=true:=by kernel_rfl
theorem zZy :plainB Try.prog 81=true:=by kernel_rfl
theorem zZz :plainB Try.prog 82=true:=by kernel_rfl
end Go.Proofs.Ytmincoafjnnkpaa
end

section
namespace Go.Proofs.Ytmincoafjnnkpaa
open Go.ChangeShapes Go.WideShapes Go.ChangeAt Go.RowKit Go.Ev
set_option maxRecDepth 100000
set_option maxHeartbeats 0

theorem own :ownKnob Try.prog.godebug=none:=by kernel_rfl
theorem laidOut :laidOutB Try.prog=true:=by kernel_rfl
theorem cells3 :Try.prog.cellsOf 3=1:=by kernel_rfl
section
variable {H:Type} {enc:TypeId × Value→H} {r:Reach} {bs:Nat}
theorem ints_in {W:World} {v:Value} {fuel:Nat} {x:DataW H × List MemPlace} (hval:Cell.okWide Try.prog W r bs 22 v) (h:DataW.trod enc Try.prog W 0 (fun _=>true) true fuel 22 [v]=some x) :
    ∃ (a:AV) (ms:List Int),VR (startWR W) a v∧Capd a∧Sl (startW W) a 1 ms.length (ms.map fun n=>.int .i64 n):=by
  obtain ⟨ms,b,h1,h2,h3⟩:=open_i64s Try.underlying22 Try.underlying3 cells3 hval h
  exact ⟨b,ms,h1,h2,h3⟩
end
end Go.Proofs.Ytmincoafjnnkpaa
end

section
namespace Go.Ev
section
variable {P:Program}
end
end Go.Ev
end

section
namespace Go.Ev
section
variable {P:Program}
end
end Go.Ev
end

section
namespace Go.Ev
section
variable {P:Program}
def KeepsG (h:H) (B:Nat) (v:AV) (G G':List AO):Prop:=∀ (j:Nat) (o:AO),G[j]? = some o→(∀ a b c,v ≠ .sl (nx h (B+j)) 0 a b c)→G'[j]? = some o
theorem Grow.keep {h:H} {L0 G G':List AO} {u v:AV} {sz e len:Nat} {cs:List AV} (g:Grow h L0 G u sz e len cs) (K:KeepsG h L0.length v G G') (hd : ∀ j a b c,u = .sl (nx h (L0.length+j)) 0 len none sz→v ≠ .sl (nx h (L0.length+j)) 0 a b c):Grow h L0 G' u sz e len cs:=by
  obtain ⟨hl,⟨rfl,rfl⟩|⟨idx,rfl,hg⟩⟩:=g
  · exact ⟨hl,.inl ⟨rfl,rfl⟩⟩
  · exact ⟨hl,.inr ⟨idx,rfl,K idx _ hg fun a b c=>hd idx a b c rfl⟩⟩
theorem Grow.apart {h:H} {L0 G:List AO} {v:AV} {sz e len:Nat} {cs:List AV} (g:Grow h L0 G v sz e len cs) {j:Nat} {m':M AV} {e':TypeId} (hj:G[j]? = some (AO.cells m' e')) (he:e'≠e) : ∀ a b c,v ≠ .sl (nx h (L0.length+j)) 0 a b c:=by
  intro a b c hv
  obtain ⟨hl,⟨rfl,rfl⟩|⟨idx,rfl,hg⟩⟩:=g
  · cases hv
  · injection hv with h1
    have h2:=xTw h1
    have:idx=j:=by omega
    subst this
    rw [hj] at hg
    cases hg
    exact he rfl
end
end Go.Ev
end

section
namespace Go.Ev
section
variable {P:Program}
set_option maxHeartbeats 2000000
end
end Go.Ev
end

section
namespace Go.Ev
section
variable {P:Program}
abbrev uu (n:Nat):AV:=.int .u64 (n:Int)
theorem xIy (n:Nat):IntKind.u64.wrap (n:Int)=((n % 2 ^ 64:Nat):Int):=by
  unfold IntKind.wrap
  simp [IntKind.bits,IntKind.signed]
theorem xCx {n:Nat} (h:n<2 ^ 63):IntKind.i64.wrap (n:Int)=(n:Int):=by
  unfold IntKind.wrap
  simp only [IntKind.bits,IntKind.signed,Bool.true_and]
  have e:(n:Int) % 2 ^ 64=n:=Int.emod_eq_of_lt (by omega) (by omega)
  simp only [e]
  simp
  omega
theorem yWz {op t x y k m k' n a} (hk:k = .u64∨k' = .u64) (hs:binSlow P op t x y (.int k m) (.int k' n)=some a):binE P op t x y (.int k m) (.int k' n)=some a:=by
  unfold binE bin2
  rcases hk with rfl|rfl
  · exact hs
  · cases k <;> exact hs
theorem int_and (a b:Nat):IntKind.u64.wrap ((BitVec.ofInt 64 (a:Int) &&& BitVec.ofInt 64 (b:Int)).toNat:Int)=(((a &&& b) % 2 ^ 64:Nat):Int):=by
  rw [xIy,BitVec.ofInt_natCast,BitVec.ofInt_natCast,BitVec.toNat_and,BitVec.toNat_ofNat,BitVec.toNat_ofNat,← Nat.and_mod_two_pow,Nat.mod_mod]
theorem int_or (a b:Nat):IntKind.u64.wrap ((BitVec.ofInt 64 (a:Int) ||| BitVec.ofInt 64 (b:Int)).toNat:Int)=(((a ||| b) % 2 ^ 64:Nat):Int):=by
  rw [xIy,BitVec.ofInt_natCast,BitVec.ofInt_natCast,BitVec.toNat_or,BitVec.toNat_ofNat,BitVec.toNat_ofNat,← Nat.or_mod_two_pow,Nat.mod_mod]
theorem int_xor (a b:Nat):IntKind.u64.wrap ((BitVec.ofInt 64 (a:Int) ^^^ BitVec.ofInt 64 (b:Int)).toNat:Int)=(((a ^^^ b) % 2 ^ 64:Nat):Int):=by
  rw [xIy,BitVec.ofInt_natCast,BitVec.ofInt_natCast,BitVec.toNat_xor,BitVec.toNat_ofNat,BitVec.toNat_ofNat,← Nat.xor_mod_two_pow,Nat.mod_mod]
theorem yTy {t x y} {a b:Nat} : binE P .and t x y (.int .u64 (a:Int)) (.int .u64 (b:Int))=some (.int .u64 (((a &&& b) % 2 ^ 64:Nat):Int)):=by
  refine yWz (.inl rfl) ?_
  show pureVal P (Sem.pure (.int .u64 (IntKind.u64.wrap ((BitVec.ofInt 64 (a:Int) &&& BitVec.ofInt 64 (b:Int)).toNat:Int))))=_
  rw [int_and];exact yRx
theorem yXy {t x y} {a b:Nat} : binE P .or t x y (.int .u64 (a:Int)) (.int .u64 (b:Int))=some (.int .u64 (((a ||| b) % 2 ^ 64:Nat):Int)):=by
  refine yWz (.inl rfl) ?_
  show pureVal P (Sem.pure (.int .u64 (IntKind.u64.wrap ((BitVec.ofInt 64 (a:Int) ||| BitVec.ofInt 64 (b:Int)).toNat:Int))))=_
  rw [int_or];exact yRx
theorem yTw {t x y} {a b:Nat} : binE P .xor t x y (.int .u64 (a:Int)) (.int .u64 (b:Int))=some (.int .u64 (((a ^^^ b) % 2 ^ 64:Nat):Int)):=by
  refine yWz (.inl rfl) ?_
  show pureVal P (Sem.pure (.int .u64 (IntKind.u64.wrap ((BitVec.ofInt 64 (a:Int) ^^^ BitVec.ofInt 64 (b:Int)).toNat:Int))))=_
  rw [int_xor];exact yRx
theorem ySy {t x y} {a b:Nat} : binE P .add t x y (.int .u64 (a:Int)) (.int .u64 (b:Int))=some (.int .u64 (((a+b) % 2 ^ 64:Nat):Int)):=by
  refine yWz (.inl rfl) ?_
  show pureVal P (Sem.pure (.int .u64 (IntKind.u64.wrap ((a:Int)+(b:Int)))))=_
  rw [← Int.natCast_add,xIy];exact yRx
theorem yTz {t x y} {a b:Nat} : binE P .lss t x y (.int .u64 (a:Int)) (.int .u64 (b:Int))=some (.bool (decide (a<b))):=by
  refine yWz (.inl rfl) ?_
  have e:decide (a<b)=decide ((a:Int)<(b:Int)):=by simp
  rw [e];rfl
theorem shl_nat (k:IntKind) (a n:Nat) (b:Nat):((a:Int) * 2 ^ (min ((n:Int)).toNat b))=((a <<< min n b:Nat):Int):=by
  rw [Nat.shiftLeft_eq,Int.toNat_natCast];simp
theorem ySv {t x y} {a:Nat} {k:IntKind} {n:Nat} : binE P .shl t x y (.int .u64 (a:Int)) (.int k (n:Int))=some (.int .u64 (((a <<< min n 64) % 2 ^ 64:Nat):Int)):=by
  refine yWz (.inl rfl) ?_
  show pureVal P (Op.shift .shl .u64 (a:Int) k (n:Int))=_
  unfold Op.shift
  rw [if_neg (by omega)]
  show pureVal P (Sem.pure (.int .u64 (IntKind.u64.wrap ((a:Int) * 2 ^ (min ((n:Int)).toNat 64)))))=_
  rw [shl_nat .u64,xIy];exact yRx
theorem ySw {t x y} {a:Nat} {k:IntKind} {n:Nat} : binE P .shr t x y (.int .u64 (a:Int)) (.int k (n:Int))=some (.int .u64 ((a >>> min n 64:Nat):Int)):=by
  refine yWz (.inl rfl) ?_
  show pureVal P (Op.shift .shr .u64 (a:Int) k (n:Int))=_
  unfold Op.shift
  rw [if_neg (by omega)]
  show pureVal P (Sem.pure (.int .u64 ((a:Int).fdiv (2 ^ (min ((n:Int)).toNat 64)))))=_
  have e:(a:Int).fdiv (2 ^ (min ((n:Int)).toNat 64))=((a >>> min n 64:Nat):Int):=by
    rw [Int.toNat_natCast,Nat.shiftRight_eq_div_pow,Int.fdiv_eq_ediv_of_nonneg _ (Int.pow_nonneg (by omega))]
    push_cast
    rfl
  rw [e];exact yRx
theorem b_andI {t x y} {a b:Nat} (hb:b<2 ^ 63):binE P .and t x y (.int .i64 (a:Int)) (.int .i64 (b:Int))=some (.int .i64 ((a &&& b:Nat):Int)):=by
  refine binE_slow rfl ?_
  show pureVal P (Sem.pure (.int .i64 (IntKind.i64.wrap ((BitVec.ofInt 64 (a:Int) &&& BitVec.ofInt 64 (b:Int)).toNat:Int))))=_
  have e:(BitVec.ofInt 64 (a:Int) &&& BitVec.ofInt 64 (b:Int)).toNat=a &&& b:=by
    rw [BitVec.ofInt_natCast,BitVec.ofInt_natCast,BitVec.toNat_and,BitVec.toNat_ofNat,BitVec.toNat_ofNat,← Nat.and_mod_two_pow]
    exact Nat.mod_eq_of_lt (Nat.lt_of_le_of_lt Nat.and_le_right (by omega))
  rw [e,xCx (Nat.lt_of_le_of_lt Nat.and_le_right hb)];exact yRx
end
end Go.Ev
end

section
namespace Go.Proofs.Ytmincoafjnnkpaa
open Go.Ev
set_option maxRecDepth 100000
set_option linter.unusedSimpArgs false
set_option linter.unusedVariables false
set_option maxHeartbeats 2000000
theorem tEvZ1 :type_of% (And.intro (And.intro (And.intro (And.intro (And.intro (And.intro (And.intro (@yQx) (@yQy)) (And.intro (@yQz) (@yPv))) (And.intro (And.intro (@yPw) (@yPx)) (And.intro (@ia_2) (And.intro (@ia_3) (@ia_4))))) (And.intro (And.intro (And.intro (@ia_5) (@yPy)) (And.intro (@yPz) (@yOv))) (And.intro (And.intro (@yOw) (@yOx)) (And.intro (@yOy) (And.intro (@zRv) (@yOz)))))) (And.intro (And.intro (And.intro (And.intro (@yNv) (@yNw)) (And.intro (@yNx) (@yNy))) (And.intro (And.intro (@yNz) (@yMv)) (And.intro (@yMw) (And.intro (@yMx) (@sz_2))))) (And.intro (And.intro (And.intro (@sz_3) (@sz_4)) (And.intro (@sz_5) (And.intro (@zQv) (@zYw)))) (And.intro (And.intro (@zYx) (@zYy)) (And.intro (@zYz) (And.intro (@zXv) (@zRx))))))) (And.intro (And.intro (And.intro (And.intro (And.intro (@zXw) (@zXx)) (And.intro (@zXy) (@zQx))) (And.intro (And.intro (@zXz) (@zWv)) (And.intro (@zWw) (And.intro (@zWx) (@zWy))))) (And.intro (And.intro (And.intro (@ze_2) (@ze_3)) (And.intro (@ze_4) (And.intro (@ze_5) (@zWz)))) (And.intro (And.intro (@zVv) (@zVw)) (And.intro (@zVx) (And.intro (@zVy) (@zVz)))))) (And.intro (And.intro (And.intro (And.intro (@zUv) (@zUw)) (And.intro (@zUx) (@zUy))) (And.intro (And.intro (@zUz) (@zTv)) (And.intro (@zTw) (And.intro (@zTx) (@zTy))))) (And.intro (And.intro (And.intro (@zOy) (@zOz)) (And.intro (@zNv) (And.intro (@zNw) (@zNx)))) (And.intro (And.intro (@zNy) (@zNz)) (And.intro (@zMv) (And.intro (@zMw) (@yMy)))))))) (And.intro (And.intro (And.intro (And.intro (And.intro (And.intro (@yMz) (@yLv)) (And.intro (@yLw) (@yLx))) (And.intro (And.intro (@yLy) (@yLz)) (And.intro (@yKv) (And.intro (@yKw) (@yKx))))) (And.intro (And.intro (And.intro (@yKy) (@yKz)) (And.intro (@yJv) (@yJw))) (And.intro (And.intro (@yJx) (@yJy)) (And.intro (@yJz) (And.intro (@yIv) (@yIw)))))) (And.intro (And.intro (And.intro (And.intro (@yIx) (@yIy)) (And.intro (@yIz) (@yHv))) (And.intro (And.intro (@yHw) (@yHx)) (And.intro (@yHy) (And.intro (@yHz) (@yGv))))) (And.intro (And.intro (And.intro (@yGw) (@yGx)) (And.intro (@yGy) (And.intro (@yGz) (@yFv)))) (And.intro (And.intro (@yFw) (@yFx)) (And.intro (@yFy) (And.intro (@yFz) (@yEv))))))) (And.intro (And.intro (And.intro (And.intro (And.intro (@yEw) (@yEx)) (And.intro (@yEy) (@yEz))) (And.intro (And.intro (@yDv) (@yDw)) (And.intro (@yDx) (And.intro (@yDy) (@yDz))))) (And.intro (And.intro (And.intro (@yCv) (@yCw)) (And.intro (@yCx) (And.intro (@yCy) (@yCz)))) (And.intro (And.intro (@zSz) (@yBv)) (And.intro (@yBw) (And.intro (@yBx) (@yBy)))))) (And.intro (And.intro (And.intro (And.intro (@yBz) (@yAv)) (And.intro (@yAw) (@yAx))) (And.intro (And.intro (@yAy) (@yAz)) (And.intro (@zZv) (And.intro (@zZw) (@zZx))))) (And.intro (And.intro (And.intro (@zZy) (@zZz)) (And.intro (@zQy) (And.intro (@zSv) (@zSw)))) (And.intro (And.intro (@zQw) (@zSx)) (And.intro (@zRy) (And.intro (@zSy) (@zRw))))))))):=And.intro (And.intro (And.intro (And.intro (And.intro (And.intro (And.intro (@yQx) (@yQy)) (And.intro (@yQz) (@yPv))) (And.intro (And.intro (@yPw) (@yPx)) (And.intro (@ia_2) (And.intro (@ia_3) (@ia_4))))) (And.intro (And.intro (And.intro (@ia_5) (@yPy)) (And.intro (@yPz) (@yOv))) (And.intro (And.intro (@yOw) (@yOx)) (And.intro (@yOy) (And.intro (@zRv) (@yOz)))))) (And.intro (And.intro (And.intro (And.intro (@yNv) (@yNw)) (And.intro (@yNx) (@yNy))) (And.intro (And.intro (@yNz) (@yMv)) (And.intro (@yMw) (And.intro (@yMx) (@sz_2))))) (And.intro (And.intro (And.intro (@sz_3) (@sz_4)) (And.intro (@sz_5) (And.intro (@zQv) (@zYw)))) (And.intro (And.intro (@zYx) (@zYy)) (And.intro (@zYz) (And.intro (@zXv) (@zRx))))))) (And.intro (And.intro (And.intro (And.intro (And.intro (@zXw) (@zXx)) (And.intro (@zXy) (@zQx))) (And.intro (And.intro (@zXz) (@zWv)) (And.intro (@zWw) (And.intro (@zWx) (@zWy))))) (And.intro (And.intro (And.intro (@ze_2) (@ze_3)) (And.intro (@ze_4) (And.intro (@ze_5) (@zWz)))) (And.intro (And.intro (@zVv) (@zVw)) (And.intro (@zVx) (And.intro (@zVy) (@zVz)))))) (And.intro (And.intro (And.intro (And.intro (@zUv) (@zUw)) (And.intro (@zUx) (@zUy))) (And.intro (And.intro (@zUz) (@zTv)) (And.intro (@zTw) (And.intro (@zTx) (@zTy))))) (And.intro (And.intro (And.intro (@zOy) (@zOz)) (And.intro (@zNv) (And.intro (@zNw) (@zNx)))) (And.intro (And.intro (@zNy) (@zNz)) (And.intro (@zMv) (And.intro (@zMw) (@yMy)))))))) (And.intro (And.intro (And.intro (And.intro (And.intro (And.intro (@yMz) (@yLv)) (And.intro (@yLw) (@yLx))) (And.intro (And.intro (@yLy) (@yLz)) (And.intro (@yKv) (And.intro (@yKw) (@yKx))))) (And.intro (And.intro (And.intro (@yKy) (@yKz)) (And.intro (@yJv) (@yJw))) (And.intro (And.intro (@yJx) (@yJy)) (And.intro (@yJz) (And.intro (@yIv) (@yIw)))))) (And.intro (And.intro (And.intro (And.intro (@yIx) (@yIy)) (And.intro (@yIz) (@yHv))) (And.intro (And.intro (@yHw) (@yHx)) (And.intro (@yHy) (And.intro (@yHz) (@yGv))))) (And.intro (And.intro (And.intro (@yGw) (@yGx)) (And.intro (@yGy) (And.intro (@yGz) (@yFv)))) (And.intro (And.intro (@yFw) (@yFx)) (And.intro (@yFy) (And.intro (@yFz) (@yEv))))))) (And.intro (And.intro (And.intro (And.intro (And.intro (@yEw) (@yEx)) (And.intro (@yEy) (@yEz))) (And.intro (And.intro (@yDv) (@yDw)) (And.intro (@yDx) (And.intro (@yDy) (@yDz))))) (And.intro (And.intro (And.intro (@yCv) (@yCw)) (And.intro (@yCx) (And.intro (@yCy) (@yCz)))) (And.intro (And.intro (@zSz) (@yBv)) (And.intro (@yBw) (And.intro (@yBx) (@yBy)))))) (And.intro (And.intro (And.intro (And.intro (@yBz) (@yAv)) (And.intro (@yAw) (@yAx))) (And.intro (And.intro (@yAy) (@yAz)) (And.intro (@zZv) (And.intro (@zZw) (@zZx))))) (And.intro (And.intro (And.intro (@zZy) (@zZz)) (And.intro (@zQy) (And.intro (@zSv) (@zSw)))) (And.intro (And.intro (@zQw) (@zSx)) (And.intro (@zRy) (And.intro (@zSy) (@zRw))))))))
abbrev ii (n:Int):AV:=.int .i64 n
theorem u1 :AV.int .u64 1=uu 1:=rfl
theorem ixk {p:Pos} {i:Nat} (hi:i<2):indexAddrE Try.prog 57 (.ptr p 0) (.int .i64 (i:Int))=some (.ptr p i):=by
  rw [yQv,yXv];simp only [zSw];rw [xNy hi,Nat.zero_add,Nat.mul_one]
theorem ix0 {p:Pos} : indexAddrE Try.prog 57 (.ptr p 0) (.int .i64 0)=some (.ptr p 0):=ixk (i:=0) (by decide)
theorem ix1 {p:Pos} : indexAddrE Try.prog 57 (.ptr p 0) (.int .i64 1)=some (.ptr p 1):=ixk (i:=1) (by decide)

theorem times0 (a b c d:Nat) (h:H) (wf:Wf h):(om Try.prog KK).call (.fn 82 [.agg [uu a,uu b],.agg [uu c,uu d]]) h = .ok (.agg [uu ((a &&& c) % 2 ^ 64),uu ((b &&& d) % 2 ^ 64)]) h:=by
  refine ySx (zMy (fn:=Try.f82) Try.func82 rfl rfl rfl rfl rfl ?_)
  simp only [zKv]
  (repeat' (first
  | (with_reducible first|refine zJx ?_|refine zGw ?_|refine zFz ?_|refine zEv ?_|refine zFy ?_|refine zJw ?_|refine zGv ?_|refine zCz ?_|refine zDw ?_|refine zCy ?_|refine zCv ?_|refine zEx ?_|refine zDz ?_|refine zCx ?_|refine zBx ?_|refine zEz ?_|refine zEy ?_|refine zAw ?_|refine zBy ?_)
  | refine zDy ?_|refine zEw rfl ?_|refine zIv ?_|refine zJy ?_
  | ((first|refine zGx rfl rfl rfl rfl rfl fun K_ hK_=>?_|refine zGy rfl rfl rfl rfl rfl fun K_ hK_=>?_);simp only [zAz,zDx,zGz,↓reduceIte,reduceCtorEq,Nat.reduceEqDiff,Bool.not_true,Bool.not_false];refine hK_ _ ?_;clear hK_ K_)
  | refine zDv (by decide) ?_
  | ((try first|refine zKy rfl rfl rfl ?_|refine zIw rfl rfl ?_|refine zKx rfl rfl rfl ?_|refine zJz rfl rfl ?_);(refine zIx fun Q_ hQ_=>?_;simp (disch:=first|omega|(simp only [List.length_cons,List.length_nil,List.length_append];omega)) only [bb,bp,zKv,↓reduceIte,reduceCtorEq,Nat.reduceEqDiff,Nat.reduceLT,Nat.reduceLeDiff,Nat.reduceAdd,Nat.reduceMul,Nat.reduceSub,Nat.reduceBEq,Int.reduceToNat,cond_true,cond_false,eq_self,beq_self_eq_true,zFx wf,zHx wf,zBv wf,zFw wf,zAy wf,zAx,tEvZ1,zIy,zIz,zHv,zHw,zAv wf];first|(refine zCw (Q:=Q_) (fun hp_=>?_) (fun hp_=>?_) <;> first|(exfalso;omega)|(refine hQ_ _ _ ?_;clear hQ_ Q_))|(refine zBw (Q:=Q_) (fun hp_=>?_) (fun hp_=>?_) <;> first|(exfalso;omega)|(refine hQ_ _ _ ?_;clear hQ_ Q_))|(refine hQ_ _ _ ?_;clear hQ_ Q_)))
  | (refine zHz fun K_ hK_=>?_;simp (disch:=omega) only [zFv,zAz,zHy,↓reduceIte,reduceCtorEq,Nat.reduceEqDiff,Nat.reduceLT];refine hK_ _ ?_;clear hK_ K_)))
  refine zOw (fun (k:Nat) f d' h'=>k≤2∧f 2 = .ptr (nx h 0) 0∧f 3 = .ptr (nx h 1) 0∧f 4 = .ptr (nx h 2) 0∧f 6=ii (k:Int)∧d'=[] ∧
    ∃ w,h.clock≤w∧w≤h.clock+3∧h'=X h [.cells (zBz [uu (if 0<k then (a &&& c) % 2 ^ 64 else a),uu (if 1<k then (b &&& d) % 2 ^ 64 else b)]) 57,.cells (zBz [uu c,uu d]) 57,.cells (zBz [.int .u64 0,.int .u64 0]) 57] w) (fun k=>2 - k) ?_ 3 0 (by omega) ?_
  · rintro k f d' h' ⟨hk,g2,g3,g4,g6,rfl,w,hw,hw2,rfl⟩
    rcases (by omega:k=0∨k=1∨k=2) with rfl|rfl|rfl
    · have g6:f 6 = .int .i64 0:=g6
      simp only [Nat.reduceLT,Nat.lt_irrefl,↓reduceIte]
      (repeat' (first
  | (with_reducible first|refine zJx ?_|refine zGw ?_|refine zFz ?_|refine zEv ?_|refine zFy ?_|refine zJw ?_|refine zGv ?_|refine zCz ?_|refine zDw ?_|refine zCy ?_|refine zCv ?_|refine zEx ?_|refine zDz ?_|refine zCx ?_|refine zBx ?_|refine zEz ?_|refine zEy ?_|refine zAw ?_|refine zBy ?_)
  | refine zDy ?_|refine zEw rfl ?_|refine zIv ?_|refine zJy ?_
  | ((first|refine zGx rfl rfl rfl rfl rfl fun K_ hK_=>?_|refine zGy rfl rfl rfl rfl rfl fun K_ hK_=>?_);simp only [zAz,zDx,zGz,↓reduceIte,reduceCtorEq,Nat.reduceEqDiff,Bool.not_true,Bool.not_false];refine hK_ _ ?_;clear hK_ K_)
  | refine zDv (by decide) ?_
  | ((try first|refine zKy rfl rfl rfl ?_|refine zIw rfl rfl ?_|refine zKx rfl rfl rfl ?_|refine zJz rfl rfl ?_);(refine zIx fun Q_ hQ_=>?_;simp (disch:=first|omega|(simp only [List.length_cons,List.length_nil,List.length_append];omega)) only [bb,bp,zKv,↓reduceIte,reduceCtorEq,Nat.reduceEqDiff,Nat.reduceLT,Nat.reduceLeDiff,Nat.reduceAdd,Nat.reduceMul,Nat.reduceSub,Nat.reduceBEq,Int.reduceToNat,cond_true,cond_false,eq_self,beq_self_eq_true,g2,g3,g4,g6,zFx wf,zHx wf,zBv wf,zFw wf,zAy wf,zAx,tEvZ1,zIy,zIz,zHv,zHw,zAv wf];first|(refine zCw (Q:=Q_) (fun hp_=>?_) (fun hp_=>?_) <;> first|(exfalso;omega)|(refine hQ_ _ _ ?_;clear hQ_ Q_))|(refine zBw (Q:=Q_) (fun hp_=>?_) (fun hp_=>?_) <;> first|(exfalso;omega)|(refine hQ_ _ _ ?_;clear hQ_ Q_))|(refine hQ_ _ _ ?_;clear hQ_ Q_)))
  | (refine zHz fun K_ hK_=>?_;simp (disch:=omega) only [zFv,zAz,zHy,↓reduceIte,reduceCtorEq,Nat.reduceEqDiff,Nat.reduceLT];refine hK_ _ ?_;clear hK_ K_)))
      refine zPy [.no,.no,.no,.no,.no,.no,.full,.full,.full] (by kernel_rfl) ?_
      (repeat' (first
  | (with_reducible first|refine zJx ?_|refine zGw ?_|refine zFz ?_|refine zEv ?_|refine zFy ?_|refine zJw ?_|refine zGv ?_|refine zCz ?_|refine zDw ?_|refine zCy ?_|refine zCv ?_|refine zEx ?_|refine zDz ?_|refine zCx ?_|refine zBx ?_|refine zEz ?_|refine zEy ?_|refine zAw ?_|refine zBy ?_)
  | refine zDy ?_|refine zEw rfl ?_|refine zIv ?_|refine zJy ?_
  | ((first|refine zGx rfl rfl rfl rfl rfl fun K_ hK_=>?_|refine zGy rfl rfl rfl rfl rfl fun K_ hK_=>?_);simp only [zAz,zDx,zGz,↓reduceIte,reduceCtorEq,Nat.reduceEqDiff,Bool.not_true,Bool.not_false];refine hK_ _ ?_;clear hK_ K_)
  | refine zDv (by decide) ?_
  | ((try first|refine zKy rfl rfl rfl ?_|refine zIw rfl rfl ?_|refine zKx rfl rfl rfl ?_|refine zJz rfl rfl ?_);(refine zIx fun Q_ hQ_=>?_;simp (disch:=first|omega|(simp only [List.length_cons,List.length_nil,List.length_append];omega)) only [bb,bp,zKv,↓reduceIte,reduceCtorEq,Nat.reduceEqDiff,Nat.reduceLT,Nat.reduceLeDiff,Nat.reduceAdd,Nat.reduceMul,Nat.reduceSub,Nat.reduceBEq,Int.reduceToNat,cond_true,cond_false,eq_self,beq_self_eq_true,g2,g3,g4,g6,ix0,ix1,yTy,yXy,yTw,ySy,yTz,ySv,ySw,zFx wf,zHx wf,zBv wf,zFw wf,zAy wf,zAx,tEvZ1,zIy,zIz,zHv,zHw,zAv wf];first|(refine zCw (Q:=Q_) (fun hp_=>?_) (fun hp_=>?_) <;> first|(exfalso;omega)|(refine hQ_ _ _ ?_;clear hQ_ Q_))|(refine zBw (Q:=Q_) (fun hp_=>?_) (fun hp_=>?_) <;> first|(exfalso;omega)|(refine hQ_ _ _ ?_;clear hQ_ Q_))|(refine hQ_ _ _ ?_;clear hQ_ Q_)))
  | (refine zHz fun K_ hK_=>?_;simp (disch:=omega) only [zFv,zAz,zHy,↓reduceIte,reduceCtorEq,Nat.reduceEqDiff,Nat.reduceLT];refine hK_ _ ?_;clear hK_ K_)))
      exact zJv 1 (by decide) ⟨by omega,by simp only [zAz,↓reduceIte,reduceCtorEq,Nat.reduceEqDiff];exact g2,by simp only [zAz,↓reduceIte,reduceCtorEq,Nat.reduceEqDiff];exact g3,by simp only [zAz,↓reduceIte,reduceCtorEq,Nat.reduceEqDiff];exact g4,by simp only [zAz,↓reduceIte,reduceCtorEq,Nat.reduceEqDiff];rfl,rfl,_,by omega,by omega,rfl⟩
    · have g6:f 6 = .int .i64 1:=g6
      simp only [Nat.reduceLT,Nat.lt_irrefl,↓reduceIte]
      (repeat' (first
  | (with_reducible first|refine zJx ?_|refine zGw ?_|refine zFz ?_|refine zEv ?_|refine zFy ?_|refine zJw ?_|refine zGv ?_|refine zCz ?_|refine zDw ?_|refine zCy ?_|refine zCv ?_|refine zEx ?_|refine zDz ?_|refine zCx ?_|refine zBx ?_|refine zEz ?_|refine zEy ?_|refine zAw ?_|refine zBy ?_)
  | refine zDy ?_|refine zEw rfl ?_|refine zIv ?_|refine zJy ?_
  | ((first|refine zGx rfl rfl rfl rfl rfl fun K_ hK_=>?_|refine zGy rfl rfl rfl rfl rfl fun K_ hK_=>?_);simp only [zAz,zDx,zGz,↓reduceIte,reduceCtorEq,Nat.reduceEqDiff,Bool.not_true,Bool.not_false];refine hK_ _ ?_;clear hK_ K_)
  | refine zDv (by decide) ?_
  | ((try first|refine zKy rfl rfl rfl ?_|refine zIw rfl rfl ?_|refine zKx rfl rfl rfl ?_|refine zJz rfl rfl ?_);(refine zIx fun Q_ hQ_=>?_;simp (disch:=first|omega|(simp only [List.length_cons,List.length_nil,List.length_append];omega)) only [bb,bp,zKv,↓reduceIte,reduceCtorEq,Nat.reduceEqDiff,Nat.reduceLT,Nat.reduceLeDiff,Nat.reduceAdd,Nat.reduceMul,Nat.reduceSub,Nat.reduceBEq,Int.reduceToNat,cond_true,cond_false,eq_self,beq_self_eq_true,g2,g3,g4,g6,zFx wf,zHx wf,zBv wf,zFw wf,zAy wf,zAx,tEvZ1,zIy,zIz,zHv,zHw,zAv wf];first|(refine zCw (Q:=Q_) (fun hp_=>?_) (fun hp_=>?_) <;> first|(exfalso;omega)|(refine hQ_ _ _ ?_;clear hQ_ Q_))|(refine zBw (Q:=Q_) (fun hp_=>?_) (fun hp_=>?_) <;> first|(exfalso;omega)|(refine hQ_ _ _ ?_;clear hQ_ Q_))|(refine hQ_ _ _ ?_;clear hQ_ Q_)))
  | (refine zHz fun K_ hK_=>?_;simp (disch:=omega) only [zFv,zAz,zHy,↓reduceIte,reduceCtorEq,Nat.reduceEqDiff,Nat.reduceLT];refine hK_ _ ?_;clear hK_ K_)))
      refine zPy [.no,.no,.no,.no,.no,.no,.full,.full,.full] (by kernel_rfl) ?_
      (repeat' (first
  | (with_reducible first|refine zJx ?_|refine zGw ?_|refine zFz ?_|refine zEv ?_|refine zFy ?_|refine zJw ?_|refine zGv ?_|refine zCz ?_|refine zDw ?_|refine zCy ?_|refine zCv ?_|refine zEx ?_|refine zDz ?_|refine zCx ?_|refine zBx ?_|refine zEz ?_|refine zEy ?_|refine zAw ?_|refine zBy ?_)
  | refine zDy ?_|refine zEw rfl ?_|refine zIv ?_|refine zJy ?_
  | ((first|refine zGx rfl rfl rfl rfl rfl fun K_ hK_=>?_|refine zGy rfl rfl rfl rfl rfl fun K_ hK_=>?_);simp only [zAz,zDx,zGz,↓reduceIte,reduceCtorEq,Nat.reduceEqDiff,Bool.not_true,Bool.not_false];refine hK_ _ ?_;clear hK_ K_)
  | refine zDv (by decide) ?_
  | ((try first|refine zKy rfl rfl rfl ?_|refine zIw rfl rfl ?_|refine zKx rfl rfl rfl ?_|refine zJz rfl rfl ?_);(refine zIx fun Q_ hQ_=>?_;simp (disch:=first|omega|(simp only [List.length_cons,List.length_nil,List.length_append];omega)) only [bb,bp,zKv,↓reduceIte,reduceCtorEq,Nat.reduceEqDiff,Nat.reduceLT,Nat.reduceLeDiff,Nat.reduceAdd,Nat.reduceMul,Nat.reduceSub,Nat.reduceBEq,Int.reduceToNat,cond_true,cond_false,eq_self,beq_self_eq_true,g2,g3,g4,g6,ix0,ix1,yTy,yXy,yTw,ySy,yTz,ySv,ySw,zFx wf,zHx wf,zBv wf,zFw wf,zAy wf,zAx,tEvZ1,zIy,zIz,zHv,zHw,zAv wf];first|(refine zCw (Q:=Q_) (fun hp_=>?_) (fun hp_=>?_) <;> first|(exfalso;omega)|(refine hQ_ _ _ ?_;clear hQ_ Q_))|(refine zBw (Q:=Q_) (fun hp_=>?_) (fun hp_=>?_) <;> first|(exfalso;omega)|(refine hQ_ _ _ ?_;clear hQ_ Q_))|(refine hQ_ _ _ ?_;clear hQ_ Q_)))
  | (refine zHz fun K_ hK_=>?_;simp (disch:=omega) only [zFv,zAz,zHy,↓reduceIte,reduceCtorEq,Nat.reduceEqDiff,Nat.reduceLT];refine hK_ _ ?_;clear hK_ K_)))
      exact zJv 2 (by decide) ⟨by omega,by simp only [zAz,↓reduceIte,reduceCtorEq,Nat.reduceEqDiff];exact g2,by simp only [zAz,↓reduceIte,reduceCtorEq,Nat.reduceEqDiff];exact g3,by simp only [zAz,↓reduceIte,reduceCtorEq,Nat.reduceEqDiff];exact g4,by simp only [zAz,↓reduceIte,reduceCtorEq,Nat.reduceEqDiff];rfl,rfl,_,by omega,by omega,rfl⟩
    · have g6:f 6 = .int .i64 2:=g6
      simp only [Nat.reduceLT,Nat.lt_irrefl,↓reduceIte]
      (repeat' (first
  | (with_reducible first|refine zJx ?_|refine zGw ?_|refine zFz ?_|refine zEv ?_|refine zFy ?_|refine zJw ?_|refine zGv ?_|refine zCz ?_|refine zDw ?_|refine zCy ?_|refine zCv ?_|refine zEx ?_|refine zDz ?_|refine zCx ?_|refine zBx ?_|refine zEz ?_|refine zEy ?_|refine zAw ?_|refine zBy ?_)
  | refine zDy ?_|refine zEw rfl ?_|refine zIv ?_|refine zJy ?_
  | ((first|refine zGx rfl rfl rfl rfl rfl fun K_ hK_=>?_|refine zGy rfl rfl rfl rfl rfl fun K_ hK_=>?_);simp only [zAz,zDx,zGz,↓reduceIte,reduceCtorEq,Nat.reduceEqDiff,Bool.not_true,Bool.not_false];refine hK_ _ ?_;clear hK_ K_)
  | refine zDv (by decide) ?_
  | ((try first|refine zKy rfl rfl rfl ?_|refine zIw rfl rfl ?_|refine zKx rfl rfl rfl ?_|refine zJz rfl rfl ?_);(refine zIx fun Q_ hQ_=>?_;simp (disch:=first|omega|(simp only [List.length_cons,List.length_nil,List.length_append];omega)) only [bb,bp,zKv,↓reduceIte,reduceCtorEq,Nat.reduceEqDiff,Nat.reduceLT,Nat.reduceLeDiff,Nat.reduceAdd,Nat.reduceMul,Nat.reduceSub,Nat.reduceBEq,Int.reduceToNat,cond_true,cond_false,eq_self,beq_self_eq_true,g2,g3,g4,g6,zFx wf,zHx wf,zBv wf,zFw wf,zAy wf,zAx,tEvZ1,zIy,zIz,zHv,zHw,zAv wf];first|(refine zCw (Q:=Q_) (fun hp_=>?_) (fun hp_=>?_) <;> first|(exfalso;omega)|(refine hQ_ _ _ ?_;clear hQ_ Q_))|(refine zBw (Q:=Q_) (fun hp_=>?_) (fun hp_=>?_) <;> first|(exfalso;omega)|(refine hQ_ _ _ ?_;clear hQ_ Q_))|(refine hQ_ _ _ ?_;clear hQ_ Q_)))
  | (refine zHz fun K_ hK_=>?_;simp (disch:=omega) only [zFv,zAz,zHy,↓reduceIte,reduceCtorEq,Nat.reduceEqDiff,Nat.reduceLT];refine hK_ _ ?_;clear hK_ K_)))
      refine zKw _ _ rfl (retc0 (by decide) (by simp (disch:=first|omega|(simp only [List.length_cons,List.length_nil,List.length_append];omega)) only [bb,bp,zKv,↓reduceIte,reduceCtorEq,Nat.reduceEqDiff,Nat.reduceLT,Nat.reduceLeDiff,Nat.reduceAdd,Nat.reduceMul,Nat.reduceSub,Nat.reduceBEq,Int.reduceToNat,cond_true,cond_false,eq_self,beq_self_eq_true,g4,zBv wf,tEvZ1,zIy,zIz,zHv,zHw,zAv wf];rfl)) ?_
      refine zLy rfl (by omega) ?_
      exact ⟨rfl,rfl⟩
  · exact ⟨by omega,rfl,rfl,rfl,rfl,rfl,_,by omega,by omega,rfl⟩
end Go.Proofs.Ytmincoafjnnkpaa
end

section
namespace Go.Proofs.Ytmincoafjnnkpaa
open Go.Ev
set_option maxRecDepth 100000
set_option linter.unusedSimpArgs false
set_option linter.unusedVariables false
set_option maxHeartbeats 2000000
theorem tEvZ2 :type_of% (And.intro (And.intro (And.intro (And.intro (And.intro (And.intro (And.intro (@yQx) (@yQy)) (And.intro (@yQz) (@yPv))) (And.intro (And.intro (@yPw) (@yPx)) (And.intro (@ia_2) (And.intro (@ia_3) (@ia_4))))) (And.intro (And.intro (And.intro (@ia_5) (@yPy)) (And.intro (@yPz) (@yOv))) (And.intro (And.intro (@yOw) (@yOx)) (And.intro (@yOy) (And.intro (@zRv) (@yOz)))))) (And.intro (And.intro (And.intro (And.intro (@yNv) (@yNw)) (And.intro (@yNx) (@yNy))) (And.intro (And.intro (@yNz) (@yMv)) (And.intro (@yMw) (And.intro (@yMx) (@sz_2))))) (And.intro (And.intro (And.intro (@sz_3) (@sz_4)) (And.intro (@sz_5) (And.intro (@zQv) (@zYw)))) (And.intro (And.intro (@zYx) (@zYy)) (And.intro (@zYz) (And.intro (@zXv) (@zRx))))))) (And.intro (And.intro (And.intro (And.intro (And.intro (@zXw) (@zXx)) (And.intro (@zXy) (@zQx))) (And.intro (And.intro (@zXz) (@zWv)) (And.intro (@zWw) (And.intro (@zWx) (@zWy))))) (And.intro (And.intro (And.intro (@ze_2) (@ze_3)) (And.intro (@ze_4) (And.intro (@ze_5) (@zWz)))) (And.intro (And.intro (@zVv) (@zVw)) (And.intro (@zVx) (And.intro (@zVy) (@zVz)))))) (And.intro (And.intro (And.intro (And.intro (@zUv) (@zUw)) (And.intro (@zUx) (@zUy))) (And.intro (And.intro (@zUz) (@zTv)) (And.intro (@zTw) (And.intro (@zTx) (@zTy))))) (And.intro (And.intro (And.intro (@zOy) (@zOz)) (And.intro (@zNv) (And.intro (@zNw) (@zNx)))) (And.intro (And.intro (@zNy) (@zNz)) (And.intro (@zMv) (And.intro (@zMw) (@yMy)))))))) (And.intro (And.intro (And.intro (And.intro (And.intro (And.intro (@yMz) (@yLv)) (And.intro (@yLw) (@yLx))) (And.intro (And.intro (@yLy) (@yLz)) (And.intro (@yKv) (And.intro (@yKw) (@yKx))))) (And.intro (And.intro (And.intro (@yKy) (@yKz)) (And.intro (@yJv) (@yJw))) (And.intro (And.intro (@yJx) (@yJy)) (And.intro (@yJz) (And.intro (@yIv) (@yIw)))))) (And.intro (And.intro (And.intro (And.intro (@yIx) (@yIy)) (And.intro (@yIz) (@yHv))) (And.intro (And.intro (@yHw) (@yHx)) (And.intro (@yHy) (And.intro (@yHz) (@yGv))))) (And.intro (And.intro (And.intro (@yGw) (@yGx)) (And.intro (@yGy) (And.intro (@yGz) (@yFv)))) (And.intro (And.intro (@yFw) (@yFx)) (And.intro (@yFy) (And.intro (@yFz) (@yEv))))))) (And.intro (And.intro (And.intro (And.intro (And.intro (@yEw) (@yEx)) (And.intro (@yEy) (@yEz))) (And.intro (And.intro (@yDv) (@yDw)) (And.intro (@yDx) (And.intro (@yDy) (@yDz))))) (And.intro (And.intro (And.intro (@yCv) (@yCw)) (And.intro (@yCx) (And.intro (@yCy) (@yCz)))) (And.intro (And.intro (@zSz) (@yBv)) (And.intro (@yBw) (And.intro (@yBx) (@yBy)))))) (And.intro (And.intro (And.intro (And.intro (@yBz) (@yAv)) (And.intro (@yAw) (@yAx))) (And.intro (And.intro (@yAy) (@yAz)) (And.intro (@zZv) (And.intro (@zZw) (@zZx))))) (And.intro (And.intro (And.intro (@zZy) (@zZz)) (And.intro (@zQy) (And.intro (@zSv) (@zSw)))) (And.intro (And.intro (@zQw) (@zSx)) (And.intro (@zRy) (And.intro (@zSy) (@zRw))))))))):=And.intro (And.intro (And.intro (And.intro (And.intro (And.intro (And.intro (@yQx) (@yQy)) (And.intro (@yQz) (@yPv))) (And.intro (And.intro (@yPw) (@yPx)) (And.intro (@ia_2) (And.intro (@ia_3) (@ia_4))))) (And.intro (And.intro (And.intro (@ia_5) (@yPy)) (And.intro (@yPz) (@yOv))) (And.intro (And.intro (@yOw) (@yOx)) (And.intro (@yOy) (And.intro (@zRv) (@yOz)))))) (And.intro (And.intro (And.intro (And.intro (@yNv) (@yNw)) (And.intro (@yNx) (@yNy))) (And.intro (And.intro (@yNz) (@yMv)) (And.intro (@yMw) (And.intro (@yMx) (@sz_2))))) (And.intro (And.intro (And.intro (@sz_3) (@sz_4)) (And.intro (@sz_5) (And.intro (@zQv) (@zYw)))) (And.intro (And.intro (@zYx) (@zYy)) (And.intro (@zYz) (And.intro (@zXv) (@zRx))))))) (And.intro (And.intro (And.intro (And.intro (And.intro (@zXw) (@zXx)) (And.intro (@zXy) (@zQx))) (And.intro (And.intro (@zXz) (@zWv)) (And.intro (@zWw) (And.intro (@zWx) (@zWy))))) (And.intro (And.intro (And.intro (@ze_2) (@ze_3)) (And.intro (@ze_4) (And.intro (@ze_5) (@zWz)))) (And.intro (And.intro (@zVv) (@zVw)) (And.intro (@zVx) (And.intro (@zVy) (@zVz)))))) (And.intro (And.intro (And.intro (And.intro (@zUv) (@zUw)) (And.intro (@zUx) (@zUy))) (And.intro (And.intro (@zUz) (@zTv)) (And.intro (@zTw) (And.intro (@zTx) (@zTy))))) (And.intro (And.intro (And.intro (@zOy) (@zOz)) (And.intro (@zNv) (And.intro (@zNw) (@zNx)))) (And.intro (And.intro (@zNy) (@zNz)) (And.intro (@zMv) (And.intro (@zMw) (@yMy)))))))) (And.intro (And.intro (And.intro (And.intro (And.intro (And.intro (@yMz) (@yLv)) (And.intro (@yLw) (@yLx))) (And.intro (And.intro (@yLy) (@yLz)) (And.intro (@yKv) (And.intro (@yKw) (@yKx))))) (And.intro (And.intro (And.intro (@yKy) (@yKz)) (And.intro (@yJv) (@yJw))) (And.intro (And.intro (@yJx) (@yJy)) (And.intro (@yJz) (And.intro (@yIv) (@yIw)))))) (And.intro (And.intro (And.intro (And.intro (@yIx) (@yIy)) (And.intro (@yIz) (@yHv))) (And.intro (And.intro (@yHw) (@yHx)) (And.intro (@yHy) (And.intro (@yHz) (@yGv))))) (And.intro (And.intro (And.intro (@yGw) (@yGx)) (And.intro (@yGy) (And.intro (@yGz) (@yFv)))) (And.intro (And.intro (@yFw) (@yFx)) (And.intro (@yFy) (And.intro (@yFz) (@yEv))))))) (And.intro (And.intro (And.intro (And.intro (And.intro (@yEw) (@yEx)) (And.intro (@yEy) (@yEz))) (And.intro (And.intro (@yDv) (@yDw)) (And.intro (@yDx) (And.intro (@yDy) (@yDz))))) (And.intro (And.intro (And.intro (@yCv) (@yCw)) (And.intro (@yCx) (And.intro (@yCy) (@yCz)))) (And.intro (And.intro (@zSz) (@yBv)) (And.intro (@yBw) (And.intro (@yBx) (@yBy)))))) (And.intro (And.intro (And.intro (And.intro (@yBz) (@yAv)) (And.intro (@yAw) (@yAx))) (And.intro (And.intro (@yAy) (@yAz)) (And.intro (@zZv) (And.intro (@zZw) (@zZx))))) (And.intro (And.intro (And.intro (@zZy) (@zZz)) (And.intro (@zQy) (And.intro (@zSv) (@zSw)))) (And.intro (And.intro (@zQw) (@zSx)) (And.intro (@zRy) (And.intro (@zSy) (@zRw))))))))
theorem s00 :(0:Int) - 0=0:=rfl
theorem s10 :(1:Int) - 0=1:=rfl
theorem s11 :(1:Int) - 1=0:=rfl
theorem a01 :(0:Int)+1=1:=rfl
theorem a10 :(1:Int)+0=1:=rfl
theorem a00 :(0:Int)+0=0:=rfl
theorem a11 :(1:Int)+1=2:=rfl
theorem a20 :(2:Int)+0=2:=rfl
theorem a02 :(0:Int)+2=2:=rfl
theorem mod64 (p:Nat):((p:Int)).tmod 64=((p % 64:Nat):Int):=rfl
theorem div64 (p:Nat):((p:Int)).tdiv 64=((p / 64:Nat):Int):=rfl
theorem sub64 (q:Nat) (h:q≤64):(64:Int) - (q:Int)=((64 - q:Nat):Int):=by omega

theorem upA (a b p:Nat) (hp:p<64) (h:H) (wf:Wf h):(om Try.prog KK).call (.fn 79 [.agg [uu a,uu b],ii p]) h = .ok (.agg [uu ((a <<< min p 64) % 2 ^ 64),uu ((((b <<< min p 64) % 2 ^ 64) ||| (a >>> min (64 - p) 64)) % 2 ^ 64)]) h:=by
  have hd:((p:Int)).tdiv 64=0:=by rw [div64,Nat.div_eq_of_lt hp];rfl
  have hm:((p:Int)).tmod 64=(p:Int):=by rw [mod64,Nat.mod_eq_of_lt hp]
  have hs:=sub64 p (by omega)
  have n64:(64:Int)≠0:=by decide
  refine ySx (zMy (fn:=Try.f79) Try.func79 rfl rfl rfl rfl rfl ?_)
  simp only [zKv]
  (repeat' (first
  | (with_reducible first|refine zJx ?_|refine zGw ?_|refine zFz ?_|refine zEv ?_|refine zFy ?_|refine zJw ?_|refine zGv ?_|refine zCz ?_|refine zDw ?_|refine zCy ?_|refine zCv ?_|refine zEx ?_|refine zDz ?_|refine zCx ?_|refine zBx ?_|refine zEz ?_|refine zEy ?_|refine zAw ?_|refine zBy ?_)
  | refine zDy ?_|refine zEw rfl ?_|refine zIv ?_|refine zJy ?_
  | ((first|refine zGx rfl rfl rfl rfl rfl fun K_ hK_=>?_|refine zGy rfl rfl rfl rfl rfl fun K_ hK_=>?_);simp only [zAz,zDx,zGz,↓reduceIte,reduceCtorEq,Nat.reduceEqDiff,Bool.not_true,Bool.not_false];refine hK_ _ ?_;clear hK_ K_)
  | refine zDv (by decide) ?_
  | ((try first|refine zKy rfl rfl rfl ?_|refine zIw rfl rfl ?_|refine zKx rfl rfl rfl ?_|refine zJz rfl rfl ?_);(refine zIx fun Q_ hQ_=>?_;simp (disch:=first|omega|(simp only [List.length_cons,List.length_nil,List.length_append];omega)) only [bb,bp,zKv,↓reduceIte,reduceCtorEq,Nat.reduceEqDiff,Nat.reduceLT,Nat.reduceLeDiff,Nat.reduceAdd,Nat.reduceMul,Nat.reduceSub,Nat.reduceBEq,Int.reduceToNat,cond_true,cond_false,eq_self,beq_self_eq_true,b_quo n64,wAy n64,hd,hm,zFx wf,zHx wf,zBv wf,zFw wf,zAy wf,zAx,tEvZ2,zIy,zIz,zHv,zHw,zAv wf];first|(refine zCw (Q:=Q_) (fun hp_=>?_) (fun hp_=>?_) <;> first|(exfalso;omega)|(refine hQ_ _ _ ?_;clear hQ_ Q_))|(refine zBw (Q:=Q_) (fun hp_=>?_) (fun hp_=>?_) <;> first|(exfalso;omega)|(refine hQ_ _ _ ?_;clear hQ_ Q_))|(refine hQ_ _ _ ?_;clear hQ_ Q_)))
  | (refine zHz fun K_ hK_=>?_;simp (disch:=omega) only [zFv,zAz,zHy,↓reduceIte,reduceCtorEq,Nat.reduceEqDiff,Nat.reduceLT];refine hK_ _ ?_;clear hK_ K_)))
  refine zOw (fun (k:Nat) f d' h'=>k≤2∧f 2 = .ptr (nx h 0) 0∧f 4 = .ptr (nx h 1) 0∧f 5 = .int .i64 0∧f 6=ii (p:Int)∧f 7 = .ptr (nx h 2) 0∧f 8=ii (k:Int)∧d'=[] ∧
    ∃ w,h.clock≤w∧w≤h.clock+3∧h'=X h [.cells (zBz [uu a,uu b]) 57,.cells (zBz [.int .u64 0,.int .u64 0]) 57,.cells (zBz [if 0<k then uu ((a <<< min p 64) % 2 ^ 64) else .int .u64 0,if 1<k then uu ((((b <<< min p 64) % 2 ^ 64) ||| (a >>> min (64 - p) 64)) % 2 ^ 64) else .int .u64 0]) 57] w) (fun k=>2 - k) ?_ 3 0 (by omega) ?_
  · rintro k f d' h' ⟨hk,g2,g4,g5,g6,g7,g8,rfl,w,hw,hw2,rfl⟩
    rcases (by omega:k=0∨k=1∨k=2) with rfl|rfl|rfl
    · have g8:f 8 = .int .i64 0:=g8
      simp only [Nat.reduceLT,Nat.lt_irrefl,↓reduceIte]
      (repeat' (first
  | (with_reducible first|refine zJx ?_|refine zGw ?_|refine zFz ?_|refine zEv ?_|refine zFy ?_|refine zJw ?_|refine zGv ?_|refine zCz ?_|refine zDw ?_|refine zCy ?_|refine zCv ?_|refine zEx ?_|refine zDz ?_|refine zCx ?_|refine zBx ?_|refine zEz ?_|refine zEy ?_|refine zAw ?_|refine zBy ?_)
  | refine zDy ?_|refine zEw rfl ?_|refine zIv ?_|refine zJy ?_
  | ((first|refine zGx rfl rfl rfl rfl rfl fun K_ hK_=>?_|refine zGy rfl rfl rfl rfl rfl fun K_ hK_=>?_);simp only [zAz,zDx,zGz,↓reduceIte,reduceCtorEq,Nat.reduceEqDiff,Bool.not_true,Bool.not_false];refine hK_ _ ?_;clear hK_ K_)
  | refine zDv (by decide) ?_
  | ((try first|refine zKy rfl rfl rfl ?_|refine zIw rfl rfl ?_|refine zKx rfl rfl rfl ?_|refine zJz rfl rfl ?_);(refine zIx fun Q_ hQ_=>?_;simp (disch:=first|omega|(simp only [List.length_cons,List.length_nil,List.length_append];omega)) only [bb,bp,zKv,↓reduceIte,reduceCtorEq,Nat.reduceEqDiff,Nat.reduceLT,Nat.reduceLeDiff,Nat.reduceAdd,Nat.reduceMul,Nat.reduceSub,Nat.reduceBEq,Int.reduceToNat,cond_true,cond_false,eq_self,beq_self_eq_true,g2,g4,g5,g6,g7,g8,s00,ix0,ix1,yTy,yXy,yTw,ySy,yTz,ySv,ySw,zFx wf,zHx wf,zBv wf,zFw wf,zAy wf,zAx,tEvZ2,zIy,zIz,zHv,zHw,zAv wf];first|(refine zCw (Q:=Q_) (fun hp_=>?_) (fun hp_=>?_) <;> first|(exfalso;omega)|(refine hQ_ _ _ ?_;clear hQ_ Q_))|(refine zBw (Q:=Q_) (fun hp_=>?_) (fun hp_=>?_) <;> first|(exfalso;omega)|(refine hQ_ _ _ ?_;clear hQ_ Q_))|(refine hQ_ _ _ ?_;clear hQ_ Q_)))
  | (refine zHz fun K_ hK_=>?_;simp (disch:=omega) only [zFv,zAz,zHy,↓reduceIte,reduceCtorEq,Nat.reduceEqDiff,Nat.reduceLT];refine hK_ _ ?_;clear hK_ K_)))
      exact zJv 1 (by decide) ⟨by omega,by simp only [zAz,↓reduceIte,reduceCtorEq,Nat.reduceEqDiff];exact g2,by simp only [zAz,↓reduceIte,reduceCtorEq,Nat.reduceEqDiff];exact g4,by simp only [zAz,↓reduceIte,reduceCtorEq,Nat.reduceEqDiff];exact g5,by simp only [zAz,↓reduceIte,reduceCtorEq,Nat.reduceEqDiff];exact g6,by simp only [zAz,↓reduceIte,reduceCtorEq,Nat.reduceEqDiff];exact g7,by simp only [zAz,↓reduceIte,reduceCtorEq,Nat.reduceEqDiff];rfl,rfl,_,by omega,by omega,rfl⟩
    · have g8:f 8 = .int .i64 1:=g8
      simp only [Nat.reduceLT,Nat.lt_irrefl,↓reduceIte]
      (repeat' (first
  | (with_reducible first|refine zJx ?_|refine zGw ?_|refine zFz ?_|refine zEv ?_|refine zFy ?_|refine zJw ?_|refine zGv ?_|refine zCz ?_|refine zDw ?_|refine zCy ?_|refine zCv ?_|refine zEx ?_|refine zDz ?_|refine zCx ?_|refine zBx ?_|refine zEz ?_|refine zEy ?_|refine zAw ?_|refine zBy ?_)
  | refine zDy ?_|refine zEw rfl ?_|refine zIv ?_|refine zJy ?_
  | ((first|refine zGx rfl rfl rfl rfl rfl fun K_ hK_=>?_|refine zGy rfl rfl rfl rfl rfl fun K_ hK_=>?_);simp only [zAz,zDx,zGz,↓reduceIte,reduceCtorEq,Nat.reduceEqDiff,Bool.not_true,Bool.not_false];refine hK_ _ ?_;clear hK_ K_)
  | refine zDv (by decide) ?_
  | ((try first|refine zKy rfl rfl rfl ?_|refine zIw rfl rfl ?_|refine zKx rfl rfl rfl ?_|refine zJz rfl rfl ?_);(refine zIx fun Q_ hQ_=>?_;simp (disch:=first|omega|(simp only [List.length_cons,List.length_nil,List.length_append];omega)) only [bb,bp,zKv,↓reduceIte,reduceCtorEq,Nat.reduceEqDiff,Nat.reduceLT,Nat.reduceLeDiff,Nat.reduceAdd,Nat.reduceMul,Nat.reduceSub,Nat.reduceBEq,Int.reduceToNat,cond_true,cond_false,eq_self,beq_self_eq_true,g2,g4,g5,g6,g7,g8,s10,ix0,ix1,yTy,yXy,yTw,ySy,yTz,ySv,ySw,zFx wf,zHx wf,zBv wf,zFw wf,zAy wf,zAx,tEvZ2,zIy,zIz,zHv,zHw,zAv wf];first|(refine zCw (Q:=Q_) (fun hp_=>?_) (fun hp_=>?_) <;> first|(exfalso;omega)|(refine hQ_ _ _ ?_;clear hQ_ Q_))|(refine zBw (Q:=Q_) (fun hp_=>?_) (fun hp_=>?_) <;> first|(exfalso;omega)|(refine hQ_ _ _ ?_;clear hQ_ Q_))|(refine hQ_ _ _ ?_;clear hQ_ Q_)))
  | (refine zHz fun K_ hK_=>?_;simp (disch:=omega) only [zFv,zAz,zHy,↓reduceIte,reduceCtorEq,Nat.reduceEqDiff,Nat.reduceLT];refine hK_ _ ?_;clear hK_ K_)))
      refine zPy [.no,.no,.no,.no,.no,.no,.no,.no,.no,.no,.no,.no,.full,.full,.full] (by kernel_rfl) ?_
      (repeat' (first
  | (with_reducible first|refine zJx ?_|refine zGw ?_|refine zFz ?_|refine zEv ?_|refine zFy ?_|refine zJw ?_|refine zGv ?_|refine zCz ?_|refine zDw ?_|refine zCy ?_|refine zCv ?_|refine zEx ?_|refine zDz ?_|refine zCx ?_|refine zBx ?_|refine zEz ?_|refine zEy ?_|refine zAw ?_|refine zBy ?_)
  | refine zDy ?_|refine zEw rfl ?_|refine zIv ?_|refine zJy ?_
  | ((first|refine zGx rfl rfl rfl rfl rfl fun K_ hK_=>?_|refine zGy rfl rfl rfl rfl rfl fun K_ hK_=>?_);simp only [zAz,zDx,zGz,↓reduceIte,reduceCtorEq,Nat.reduceEqDiff,Bool.not_true,Bool.not_false];refine hK_ _ ?_;clear hK_ K_)
  | refine zDv (by decide) ?_
  | ((try first|refine zKy rfl rfl rfl ?_|refine zIw rfl rfl ?_|refine zKx rfl rfl rfl ?_|refine zJz rfl rfl ?_);(refine zIx fun Q_ hQ_=>?_;simp (disch:=first|omega|(simp only [List.length_cons,List.length_nil,List.length_append];omega)) only [bb,bp,zKv,↓reduceIte,reduceCtorEq,Nat.reduceEqDiff,Nat.reduceLT,Nat.reduceLeDiff,Nat.reduceAdd,Nat.reduceMul,Nat.reduceSub,Nat.reduceBEq,Int.reduceToNat,cond_true,cond_false,eq_self,beq_self_eq_true,g2,g4,g5,g6,g7,g8,s10,s11,ix0,ix1,hs,yTy,yXy,yTw,ySy,yTz,ySv,ySw,zFx wf,zHx wf,zBv wf,zFw wf,zAy wf,zAx,tEvZ2,zIy,zIz,zHv,zHw,zAv wf];first|(refine zCw (Q:=Q_) (fun hp_=>?_) (fun hp_=>?_) <;> first|(exfalso;omega)|(refine hQ_ _ _ ?_;clear hQ_ Q_))|(refine zBw (Q:=Q_) (fun hp_=>?_) (fun hp_=>?_) <;> first|(exfalso;omega)|(refine hQ_ _ _ ?_;clear hQ_ Q_))|(refine hQ_ _ _ ?_;clear hQ_ Q_)))
  | (refine zHz fun K_ hK_=>?_;simp (disch:=omega) only [zFv,zAz,zHy,↓reduceIte,reduceCtorEq,Nat.reduceEqDiff,Nat.reduceLT];refine hK_ _ ?_;clear hK_ K_)))
      exact zJv 2 (by decide) ⟨by omega,by simp only [zAz,↓reduceIte,reduceCtorEq,Nat.reduceEqDiff];exact g2,by simp only [zAz,↓reduceIte,reduceCtorEq,Nat.reduceEqDiff];exact g4,by simp only [zAz,↓reduceIte,reduceCtorEq,Nat.reduceEqDiff];exact g5,by simp only [zAz,↓reduceIte,reduceCtorEq,Nat.reduceEqDiff];exact g6,by simp only [zAz,↓reduceIte,reduceCtorEq,Nat.reduceEqDiff];exact g7,by simp only [zAz,↓reduceIte,reduceCtorEq,Nat.reduceEqDiff];rfl,rfl,_,by omega,by omega,rfl⟩
    · have g8:f 8 = .int .i64 2:=g8
      simp only [Nat.reduceLT,Nat.lt_irrefl,↓reduceIte]
      (repeat' (first
  | (with_reducible first|refine zJx ?_|refine zGw ?_|refine zFz ?_|refine zEv ?_|refine zFy ?_|refine zJw ?_|refine zGv ?_|refine zCz ?_|refine zDw ?_|refine zCy ?_|refine zCv ?_|refine zEx ?_|refine zDz ?_|refine zCx ?_|refine zBx ?_|refine zEz ?_|refine zEy ?_|refine zAw ?_|refine zBy ?_)
  | refine zDy ?_|refine zEw rfl ?_|refine zIv ?_|refine zJy ?_
  | ((first|refine zGx rfl rfl rfl rfl rfl fun K_ hK_=>?_|refine zGy rfl rfl rfl rfl rfl fun K_ hK_=>?_);simp only [zAz,zDx,zGz,↓reduceIte,reduceCtorEq,Nat.reduceEqDiff,Bool.not_true,Bool.not_false];refine hK_ _ ?_;clear hK_ K_)
  | refine zDv (by decide) ?_
  | ((try first|refine zKy rfl rfl rfl ?_|refine zIw rfl rfl ?_|refine zKx rfl rfl rfl ?_|refine zJz rfl rfl ?_);(refine zIx fun Q_ hQ_=>?_;simp (disch:=first|omega|(simp only [List.length_cons,List.length_nil,List.length_append];omega)) only [bb,bp,zKv,↓reduceIte,reduceCtorEq,Nat.reduceEqDiff,Nat.reduceLT,Nat.reduceLeDiff,Nat.reduceAdd,Nat.reduceMul,Nat.reduceSub,Nat.reduceBEq,Int.reduceToNat,cond_true,cond_false,eq_self,beq_self_eq_true,g2,g4,g5,g6,g7,g8,zFx wf,zHx wf,zBv wf,zFw wf,zAy wf,zAx,tEvZ2,zIy,zIz,zHv,zHw,zAv wf];first|(refine zCw (Q:=Q_) (fun hp_=>?_) (fun hp_=>?_) <;> first|(exfalso;omega)|(refine hQ_ _ _ ?_;clear hQ_ Q_))|(refine zBw (Q:=Q_) (fun hp_=>?_) (fun hp_=>?_) <;> first|(exfalso;omega)|(refine hQ_ _ _ ?_;clear hQ_ Q_))|(refine hQ_ _ _ ?_;clear hQ_ Q_)))
  | (refine zHz fun K_ hK_=>?_;simp (disch:=omega) only [zFv,zAz,zHy,↓reduceIte,reduceCtorEq,Nat.reduceEqDiff,Nat.reduceLT];refine hK_ _ ?_;clear hK_ K_)))
      refine zKw _ _ rfl (retc0 (by decide) (by simp (disch:=first|omega|(simp only [List.length_cons,List.length_nil,List.length_append];omega)) only [bb,bp,zKv,↓reduceIte,reduceCtorEq,Nat.reduceEqDiff,Nat.reduceLT,Nat.reduceLeDiff,Nat.reduceAdd,Nat.reduceMul,Nat.reduceSub,Nat.reduceBEq,Int.reduceToNat,cond_true,cond_false,eq_self,beq_self_eq_true,g4,zBv wf,tEvZ2,zIy,zIz,zHv,zHw,zAv wf];rfl)) ?_
      refine zLy rfl (by omega) ?_
      exact ⟨rfl,rfl⟩
  · exact ⟨by omega,rfl,rfl,rfl,rfl,rfl,rfl,rfl,_,by omega,by omega,rfl⟩

theorem upB (a b p:Nat) (hp:64≤p∧p<128) (h:H) (wf:Wf h):(om Try.prog KK).call (.fn 79 [.agg [uu a,uu b],ii p]) h = .ok (.agg [.int .u64 0,uu ((a <<< min (p - 64) 64) % 2 ^ 64)]) h:=by
  have hd:((p:Int)).tdiv 64=1:=by rw [div64,show p / 64=1 by omega];rfl
  have hm:((p:Int)).tmod 64=((p - 64:Nat):Int):=by rw [mod64,show p % 64=p - 64 by omega]
  have n64:(64:Int)≠0:=by decide
  refine ySx (zMy (fn:=Try.f79) Try.func79 rfl rfl rfl rfl rfl ?_)
  simp only [zKv]
  (repeat' (first
  | (with_reducible first|refine zJx ?_|refine zGw ?_|refine zFz ?_|refine zEv ?_|refine zFy ?_|refine zJw ?_|refine zGv ?_|refine zCz ?_|refine zDw ?_|refine zCy ?_|refine zCv ?_|refine zEx ?_|refine zDz ?_|refine zCx ?_|refine zBx ?_|refine zEz ?_|refine zEy ?_|refine zAw ?_|refine zBy ?_)
  | refine zDy ?_|refine zEw rfl ?_|refine zIv ?_|refine zJy ?_
  | ((first|refine zGx rfl rfl rfl rfl rfl fun K_ hK_=>?_|refine zGy rfl rfl rfl rfl rfl fun K_ hK_=>?_);simp only [zAz,zDx,zGz,↓reduceIte,reduceCtorEq,Nat.reduceEqDiff,Bool.not_true,Bool.not_false];refine hK_ _ ?_;clear hK_ K_)
  | refine zDv (by decide) ?_
  | ((try first|refine zKy rfl rfl rfl ?_|refine zIw rfl rfl ?_|refine zKx rfl rfl rfl ?_|refine zJz rfl rfl ?_);(refine zIx fun Q_ hQ_=>?_;simp (disch:=first|omega|(simp only [List.length_cons,List.length_nil,List.length_append];omega)) only [bb,bp,zKv,↓reduceIte,reduceCtorEq,Nat.reduceEqDiff,Nat.reduceLT,Nat.reduceLeDiff,Nat.reduceAdd,Nat.reduceMul,Nat.reduceSub,Nat.reduceBEq,Int.reduceToNat,cond_true,cond_false,eq_self,beq_self_eq_true,b_quo n64,wAy n64,hd,hm,zFx wf,zHx wf,zBv wf,zFw wf,zAy wf,zAx,tEvZ2,zIy,zIz,zHv,zHw,zAv wf];first|(refine zCw (Q:=Q_) (fun hp_=>?_) (fun hp_=>?_) <;> first|(exfalso;omega)|(refine hQ_ _ _ ?_;clear hQ_ Q_))|(refine zBw (Q:=Q_) (fun hp_=>?_) (fun hp_=>?_) <;> first|(exfalso;omega)|(refine hQ_ _ _ ?_;clear hQ_ Q_))|(refine hQ_ _ _ ?_;clear hQ_ Q_)))
  | (refine zHz fun K_ hK_=>?_;simp (disch:=omega) only [zFv,zAz,zHy,↓reduceIte,reduceCtorEq,Nat.reduceEqDiff,Nat.reduceLT];refine hK_ _ ?_;clear hK_ K_)))
  refine zOw (fun (k:Nat) f d' h'=>k≤1∧f 2 = .ptr (nx h 0) 0∧f 4 = .ptr (nx h 1) 0∧f 5 = .int .i64 1∧f 6=ii ((p - 64:Nat):Int)∧f 7 = .ptr (nx h 2) 0∧f 8=ii ((k+1:Nat):Int)∧d'=[] ∧
    ∃ w,h.clock≤w∧w≤h.clock+3∧h'=X h [.cells (zBz [uu a,uu b]) 57,.cells (zBz [.int .u64 0,.int .u64 0]) 57,.cells (zBz [.int .u64 0,if 0<k then uu ((a <<< min (p - 64) 64) % 2 ^ 64) else .int .u64 0]) 57] w) (fun k=>2 - k) ?_ 3 0 (by omega) ?_
  · rintro k f d' h' ⟨hk,g2,g4,g5,g6,g7,g8,rfl,w,hw,hw2,rfl⟩
    rcases (by omega:k=0∨k=1) with rfl|rfl
    · have g8:f 8 = .int .i64 1:=g8
      simp only [Nat.reduceLT,Nat.lt_irrefl,↓reduceIte]
      (repeat' (first
  | (with_reducible first|refine zJx ?_|refine zGw ?_|refine zFz ?_|refine zEv ?_|refine zFy ?_|refine zJw ?_|refine zGv ?_|refine zCz ?_|refine zDw ?_|refine zCy ?_|refine zCv ?_|refine zEx ?_|refine zDz ?_|refine zCx ?_|refine zBx ?_|refine zEz ?_|refine zEy ?_|refine zAw ?_|refine zBy ?_)
  | refine zDy ?_|refine zEw rfl ?_|refine zIv ?_|refine zJy ?_
  | ((first|refine zGx rfl rfl rfl rfl rfl fun K_ hK_=>?_|refine zGy rfl rfl rfl rfl rfl fun K_ hK_=>?_);simp only [zAz,zDx,zGz,↓reduceIte,reduceCtorEq,Nat.reduceEqDiff,Bool.not_true,Bool.not_false];refine hK_ _ ?_;clear hK_ K_)
  | refine zDv (by decide) ?_
  | ((try first|refine zKy rfl rfl rfl ?_|refine zIw rfl rfl ?_|refine zKx rfl rfl rfl ?_|refine zJz rfl rfl ?_);(refine zIx fun Q_ hQ_=>?_;simp (disch:=first|omega|(simp only [List.length_cons,List.length_nil,List.length_append];omega)) only [bb,bp,zKv,↓reduceIte,reduceCtorEq,Nat.reduceEqDiff,Nat.reduceLT,Nat.reduceLeDiff,Nat.reduceAdd,Nat.reduceMul,Nat.reduceSub,Nat.reduceBEq,Int.reduceToNat,cond_true,cond_false,eq_self,beq_self_eq_true,g2,g4,g5,g6,g7,g8,s11,ix0,ix1,yTy,yXy,yTw,ySy,yTz,ySv,ySw,zFx wf,zHx wf,zBv wf,zFw wf,zAy wf,zAx,tEvZ2,zIy,zIz,zHv,zHw,zAv wf];first|(refine zCw (Q:=Q_) (fun hp_=>?_) (fun hp_=>?_) <;> first|(exfalso;omega)|(refine hQ_ _ _ ?_;clear hQ_ Q_))|(refine zBw (Q:=Q_) (fun hp_=>?_) (fun hp_=>?_) <;> first|(exfalso;omega)|(refine hQ_ _ _ ?_;clear hQ_ Q_))|(refine hQ_ _ _ ?_;clear hQ_ Q_)))
  | (refine zHz fun K_ hK_=>?_;simp (disch:=omega) only [zFv,zAz,zHy,↓reduceIte,reduceCtorEq,Nat.reduceEqDiff,Nat.reduceLT];refine hK_ _ ?_;clear hK_ K_)))
      exact zJv 1 (by decide) ⟨by omega,by simp only [zAz,↓reduceIte,reduceCtorEq,Nat.reduceEqDiff];exact g2,by simp only [zAz,↓reduceIte,reduceCtorEq,Nat.reduceEqDiff];exact g4,by simp only [zAz,↓reduceIte,reduceCtorEq,Nat.reduceEqDiff];exact g5,by simp only [zAz,↓reduceIte,reduceCtorEq,Nat.reduceEqDiff];exact g6,by simp only [zAz,↓reduceIte,reduceCtorEq,Nat.reduceEqDiff];exact g7,by simp only [zAz,↓reduceIte,reduceCtorEq,Nat.reduceEqDiff];rfl,rfl,_,by omega,by omega,rfl⟩
    · have g8:f 8 = .int .i64 2:=g8
      simp only [Nat.reduceLT,Nat.lt_irrefl,↓reduceIte]
      (repeat' (first
  | (with_reducible first|refine zJx ?_|refine zGw ?_|refine zFz ?_|refine zEv ?_|refine zFy ?_|refine zJw ?_|refine zGv ?_|refine zCz ?_|refine zDw ?_|refine zCy ?_|refine zCv ?_|refine zEx ?_|refine zDz ?_|refine zCx ?_|refine zBx ?_|refine zEz ?_|refine zEy ?_|refine zAw ?_|refine zBy ?_)
  | refine zDy ?_|refine zEw rfl ?_|refine zIv ?_|refine zJy ?_
  | ((first|refine zGx rfl rfl rfl rfl rfl fun K_ hK_=>?_|refine zGy rfl rfl rfl rfl rfl fun K_ hK_=>?_);simp only [zAz,zDx,zGz,↓reduceIte,reduceCtorEq,Nat.reduceEqDiff,Bool.not_true,Bool.not_false];refine hK_ _ ?_;clear hK_ K_)
  | refine zDv (by decide) ?_
  | ((try first|refine zKy rfl rfl rfl ?_|refine zIw rfl rfl ?_|refine zKx rfl rfl rfl ?_|refine zJz rfl rfl ?_);(refine zIx fun Q_ hQ_=>?_;simp (disch:=first|omega|(simp only [List.length_cons,List.length_nil,List.length_append];omega)) only [bb,bp,zKv,↓reduceIte,reduceCtorEq,Nat.reduceEqDiff,Nat.reduceLT,Nat.reduceLeDiff,Nat.reduceAdd,Nat.reduceMul,Nat.reduceSub,Nat.reduceBEq,Int.reduceToNat,cond_true,cond_false,eq_self,beq_self_eq_true,g2,g4,g5,g6,g7,g8,zFx wf,zHx wf,zBv wf,zFw wf,zAy wf,zAx,tEvZ2,zIy,zIz,zHv,zHw,zAv wf];first|(refine zCw (Q:=Q_) (fun hp_=>?_) (fun hp_=>?_) <;> first|(exfalso;omega)|(refine hQ_ _ _ ?_;clear hQ_ Q_))|(refine zBw (Q:=Q_) (fun hp_=>?_) (fun hp_=>?_) <;> first|(exfalso;omega)|(refine hQ_ _ _ ?_;clear hQ_ Q_))|(refine hQ_ _ _ ?_;clear hQ_ Q_)))
  | (refine zHz fun K_ hK_=>?_;simp (disch:=omega) only [zFv,zAz,zHy,↓reduceIte,reduceCtorEq,Nat.reduceEqDiff,Nat.reduceLT];refine hK_ _ ?_;clear hK_ K_)))
      refine zKw _ _ rfl (retc0 (by decide) (by simp (disch:=first|omega|(simp only [List.length_cons,List.length_nil,List.length_append];omega)) only [bb,bp,zKv,↓reduceIte,reduceCtorEq,Nat.reduceEqDiff,Nat.reduceLT,Nat.reduceLeDiff,Nat.reduceAdd,Nat.reduceMul,Nat.reduceSub,Nat.reduceBEq,Int.reduceToNat,cond_true,cond_false,eq_self,beq_self_eq_true,g4,zBv wf,tEvZ2,zIy,zIz,zHv,zHw,zAv wf];rfl)) ?_
      refine zLy rfl (by omega) ?_
      exact ⟨rfl,rfl⟩
  · exact ⟨by omega,rfl,rfl,rfl,rfl,rfl,rfl,rfl,_,by omega,by omega,rfl⟩

theorem upC (a b:Nat) (h:H) (wf:Wf h):(om Try.prog KK).call (.fn 79 [.agg [uu a,uu b],.int .i64 128]) h = .ok (.agg [.int .u64 0,.int .u64 0]) h:=by
  have hd:(128:Int).tdiv 64=2:=rfl
  have hm:(128:Int).tmod 64=0:=rfl
  have n64:(64:Int)≠0:=by decide
  refine ySx (zMy (fn:=Try.f79) Try.func79 rfl rfl rfl rfl rfl ?_)
  simp only [zKv]
  (repeat' (first
  | (with_reducible first|refine zJx ?_|refine zGw ?_|refine zFz ?_|refine zEv ?_|refine zFy ?_|refine zJw ?_|refine zGv ?_|refine zCz ?_|refine zDw ?_|refine zCy ?_|refine zCv ?_|refine zEx ?_|refine zDz ?_|refine zCx ?_|refine zBx ?_|refine zEz ?_|refine zEy ?_|refine zAw ?_|refine zBy ?_)
  | refine zDy ?_|refine zEw rfl ?_|refine zIv ?_|refine zJy ?_
  | ((first|refine zGx rfl rfl rfl rfl rfl fun K_ hK_=>?_|refine zGy rfl rfl rfl rfl rfl fun K_ hK_=>?_);simp only [zAz,zDx,zGz,↓reduceIte,reduceCtorEq,Nat.reduceEqDiff,Bool.not_true,Bool.not_false];refine hK_ _ ?_;clear hK_ K_)
  | refine zDv (by decide) ?_
  | ((try first|refine zKy rfl rfl rfl ?_|refine zIw rfl rfl ?_|refine zKx rfl rfl rfl ?_|refine zJz rfl rfl ?_);(refine zIx fun Q_ hQ_=>?_;simp (disch:=first|omega|(simp only [List.length_cons,List.length_nil,List.length_append];omega)) only [bb,bp,zKv,↓reduceIte,reduceCtorEq,Nat.reduceEqDiff,Nat.reduceLT,Nat.reduceLeDiff,Nat.reduceAdd,Nat.reduceMul,Nat.reduceSub,Nat.reduceBEq,Int.reduceToNat,cond_true,cond_false,eq_self,beq_self_eq_true,b_quo n64,wAy n64,hd,hm,zFx wf,zHx wf,zBv wf,zFw wf,zAy wf,zAx,tEvZ2,zIy,zIz,zHv,zHw,zAv wf];first|(refine zCw (Q:=Q_) (fun hp_=>?_) (fun hp_=>?_) <;> first|(exfalso;omega)|(refine hQ_ _ _ ?_;clear hQ_ Q_))|(refine zBw (Q:=Q_) (fun hp_=>?_) (fun hp_=>?_) <;> first|(exfalso;omega)|(refine hQ_ _ _ ?_;clear hQ_ Q_))|(refine hQ_ _ _ ?_;clear hQ_ Q_)))
  | (refine zHz fun K_ hK_=>?_;simp (disch:=omega) only [zFv,zAz,zHy,↓reduceIte,reduceCtorEq,Nat.reduceEqDiff,Nat.reduceLT];refine hK_ _ ?_;clear hK_ K_)))
  refine zOw (fun (k:Nat) f d' h'=>f 4 = .ptr (nx h 1) 0∧f 7 = .ptr (nx h 2) 0∧f 8 = .int .i64 2∧d'=[] ∧
    ∃ w,h.clock≤w∧w≤h.clock+3∧h'=X h [.cells (zBz [uu a,uu b]) 57,.cells (zBz [.int .u64 0,.int .u64 0]) 57,.cells (zBz [.int .u64 0,.int .u64 0]) 57] w) (fun k=>2 - k) ?_ 3 0 (by omega) ?_
  · rintro k f d' h' ⟨g4,g7,g8,rfl,w,hw,hw2,rfl⟩
    (repeat' (first
  | (with_reducible first|refine zJx ?_|refine zGw ?_|refine zFz ?_|refine zEv ?_|refine zFy ?_|refine zJw ?_|refine zGv ?_|refine zCz ?_|refine zDw ?_|refine zCy ?_|refine zCv ?_|refine zEx ?_|refine zDz ?_|refine zCx ?_|refine zBx ?_|refine zEz ?_|refine zEy ?_|refine zAw ?_|refine zBy ?_)
  | refine zDy ?_|refine zEw rfl ?_|refine zIv ?_|refine zJy ?_
  | ((first|refine zGx rfl rfl rfl rfl rfl fun K_ hK_=>?_|refine zGy rfl rfl rfl rfl rfl fun K_ hK_=>?_);simp only [zAz,zDx,zGz,↓reduceIte,reduceCtorEq,Nat.reduceEqDiff,Bool.not_true,Bool.not_false];refine hK_ _ ?_;clear hK_ K_)
  | refine zDv (by decide) ?_
  | ((try first|refine zKy rfl rfl rfl ?_|refine zIw rfl rfl ?_|refine zKx rfl rfl rfl ?_|refine zJz rfl rfl ?_);(refine zIx fun Q_ hQ_=>?_;simp (disch:=first|omega|(simp only [List.length_cons,List.length_nil,List.length_append];omega)) only [bb,bp,zKv,↓reduceIte,reduceCtorEq,Nat.reduceEqDiff,Nat.reduceLT,Nat.reduceLeDiff,Nat.reduceAdd,Nat.reduceMul,Nat.reduceSub,Nat.reduceBEq,Int.reduceToNat,cond_true,cond_false,eq_self,beq_self_eq_true,g4,g7,g8,zFx wf,zHx wf,zBv wf,zFw wf,zAy wf,zAx,tEvZ2,zIy,zIz,zHv,zHw,zAv wf];first|(refine zCw (Q:=Q_) (fun hp_=>?_) (fun hp_=>?_) <;> first|(exfalso;omega)|(refine hQ_ _ _ ?_;clear hQ_ Q_))|(refine zBw (Q:=Q_) (fun hp_=>?_) (fun hp_=>?_) <;> first|(exfalso;omega)|(refine hQ_ _ _ ?_;clear hQ_ Q_))|(refine hQ_ _ _ ?_;clear hQ_ Q_)))
  | (refine zHz fun K_ hK_=>?_;simp (disch:=omega) only [zFv,zAz,zHy,↓reduceIte,reduceCtorEq,Nat.reduceEqDiff,Nat.reduceLT];refine hK_ _ ?_;clear hK_ K_)))
    refine zKw _ _ rfl (retc0 (by decide) (by simp (disch:=first|omega|(simp only [List.length_cons,List.length_nil,List.length_append];omega)) only [bb,bp,zKv,↓reduceIte,reduceCtorEq,Nat.reduceEqDiff,Nat.reduceLT,Nat.reduceLeDiff,Nat.reduceAdd,Nat.reduceMul,Nat.reduceSub,Nat.reduceBEq,Int.reduceToNat,cond_true,cond_false,eq_self,beq_self_eq_true,g4,zBv wf,tEvZ2,zIy,zIz,zHv,zHw,zAv wf];rfl)) ?_
    refine zLy rfl (by omega) ?_
    exact ⟨rfl,rfl⟩
  · exact ⟨rfl,rfl,rfl,rfl,_,by omega,by omega,rfl⟩

theorem downA (a b p:Nat) (hp:p<64) (h:H) (wf:Wf h):(om Try.prog KK).call (.fn 78 [.agg [uu a,uu b],ii p]) h = .ok (.agg [uu (((a >>> min p 64) ||| ((b <<< min (64 - p) 64) % 2 ^ 64)) % 2 ^ 64),uu (b >>> min p 64)]) h:=by
  have hd:((p:Int)).tdiv 64=0:=by rw [div64,Nat.div_eq_of_lt hp];rfl
  have hm:((p:Int)).tmod 64=(p:Int):=by rw [mod64,Nat.mod_eq_of_lt hp]
  have hs:=sub64 p (by omega)
  have n64:(64:Int)≠0:=by decide
  refine ySx (zMy (fn:=Try.f78) Try.func78 rfl rfl rfl rfl rfl ?_)
  simp only [zKv]
  (repeat' (first
  | (with_reducible first|refine zJx ?_|refine zGw ?_|refine zFz ?_|refine zEv ?_|refine zFy ?_|refine zJw ?_|refine zGv ?_|refine zCz ?_|refine zDw ?_|refine zCy ?_|refine zCv ?_|refine zEx ?_|refine zDz ?_|refine zCx ?_|refine zBx ?_|refine zEz ?_|refine zEy ?_|refine zAw ?_|refine zBy ?_)
  | refine zDy ?_|refine zEw rfl ?_|refine zIv ?_|refine zJy ?_
  | ((first|refine zGx rfl rfl rfl rfl rfl fun K_ hK_=>?_|refine zGy rfl rfl rfl rfl rfl fun K_ hK_=>?_);simp only [zAz,zDx,zGz,↓reduceIte,reduceCtorEq,Nat.reduceEqDiff,Bool.not_true,Bool.not_false];refine hK_ _ ?_;clear hK_ K_)
  | refine zDv (by decide) ?_
  | ((try first|refine zKy rfl rfl rfl ?_|refine zIw rfl rfl ?_|refine zKx rfl rfl rfl ?_|refine zJz rfl rfl ?_);(refine zIx fun Q_ hQ_=>?_;simp (disch:=first|omega|(simp only [List.length_cons,List.length_nil,List.length_append];omega)) only [bb,bp,zKv,↓reduceIte,reduceCtorEq,Nat.reduceEqDiff,Nat.reduceLT,Nat.reduceLeDiff,Nat.reduceAdd,Nat.reduceMul,Nat.reduceSub,Nat.reduceBEq,Int.reduceToNat,cond_true,cond_false,eq_self,beq_self_eq_true,b_quo n64,wAy n64,hd,hm,zFx wf,zHx wf,zBv wf,zFw wf,zAy wf,zAx,tEvZ2,zIy,zIz,zHv,zHw,zAv wf];first|(refine zCw (Q:=Q_) (fun hp_=>?_) (fun hp_=>?_) <;> first|(exfalso;omega)|(refine hQ_ _ _ ?_;clear hQ_ Q_))|(refine zBw (Q:=Q_) (fun hp_=>?_) (fun hp_=>?_) <;> first|(exfalso;omega)|(refine hQ_ _ _ ?_;clear hQ_ Q_))|(refine hQ_ _ _ ?_;clear hQ_ Q_)))
  | (refine zHz fun K_ hK_=>?_;simp (disch:=omega) only [zFv,zAz,zHy,↓reduceIte,reduceCtorEq,Nat.reduceEqDiff,Nat.reduceLT];refine hK_ _ ?_;clear hK_ K_)))
  refine zOw (fun (k:Nat) f d' h'=>k≤2∧f 2 = .ptr (nx h 0) 0∧f 4 = .ptr (nx h 1) 0∧f 5 = .int .i64 0∧f 6=ii (p:Int)∧f 7 = .ptr (nx h 2) 0∧f 8=ii (k:Int)∧d'=[] ∧
    ∃ w,h.clock≤w∧w≤h.clock+3∧h'=X h [.cells (zBz [uu a,uu b]) 57,.cells (zBz [.int .u64 0,.int .u64 0]) 57,.cells (zBz [if 0<k then uu (((a >>> min p 64) ||| ((b <<< min (64 - p) 64) % 2 ^ 64)) % 2 ^ 64) else .int .u64 0,if 1<k then uu (b >>> min p 64) else .int .u64 0]) 57] w) (fun k=>2 - k) ?_ 3 0 (by omega) ?_
  · rintro k f d' h' ⟨hk,g2,g4,g5,g6,g7,g8,rfl,w,hw,hw2,rfl⟩
    rcases (by omega:k=0∨k=1∨k=2) with rfl|rfl|rfl
    · have g8:f 8 = .int .i64 0:=g8
      simp only [Nat.reduceLT,Nat.lt_irrefl,↓reduceIte]
      (repeat' (first
  | (with_reducible first|refine zJx ?_|refine zGw ?_|refine zFz ?_|refine zEv ?_|refine zFy ?_|refine zJw ?_|refine zGv ?_|refine zCz ?_|refine zDw ?_|refine zCy ?_|refine zCv ?_|refine zEx ?_|refine zDz ?_|refine zCx ?_|refine zBx ?_|refine zEz ?_|refine zEy ?_|refine zAw ?_|refine zBy ?_)
  | refine zDy ?_|refine zEw rfl ?_|refine zIv ?_|refine zJy ?_
  | ((first|refine zGx rfl rfl rfl rfl rfl fun K_ hK_=>?_|refine zGy rfl rfl rfl rfl rfl fun K_ hK_=>?_);simp only [zAz,zDx,zGz,↓reduceIte,reduceCtorEq,Nat.reduceEqDiff,Bool.not_true,Bool.not_false];refine hK_ _ ?_;clear hK_ K_)
  | refine zDv (by decide) ?_
  | ((try first|refine zKy rfl rfl rfl ?_|refine zIw rfl rfl ?_|refine zKx rfl rfl rfl ?_|refine zJz rfl rfl ?_);(refine zIx fun Q_ hQ_=>?_;simp (disch:=first|omega|(simp only [List.length_cons,List.length_nil,List.length_append];omega)) only [bb,bp,zKv,↓reduceIte,reduceCtorEq,Nat.reduceEqDiff,Nat.reduceLT,Nat.reduceLeDiff,Nat.reduceAdd,Nat.reduceMul,Nat.reduceSub,Nat.reduceBEq,Int.reduceToNat,cond_true,cond_false,eq_self,beq_self_eq_true,g2,g4,g5,g6,g7,g8,a00,a01,ix0,ix1,yTy,yXy,yTw,ySy,yTz,ySv,ySw,zFx wf,zHx wf,zBv wf,zFw wf,zAy wf,zAx,tEvZ2,zIy,zIz,zHv,zHw,zAv wf];first|(refine zCw (Q:=Q_) (fun hp_=>?_) (fun hp_=>?_) <;> first|(exfalso;omega)|(refine hQ_ _ _ ?_;clear hQ_ Q_))|(refine zBw (Q:=Q_) (fun hp_=>?_) (fun hp_=>?_) <;> first|(exfalso;omega)|(refine hQ_ _ _ ?_;clear hQ_ Q_))|(refine hQ_ _ _ ?_;clear hQ_ Q_)))
  | (refine zHz fun K_ hK_=>?_;simp (disch:=omega) only [zFv,zAz,zHy,↓reduceIte,reduceCtorEq,Nat.reduceEqDiff,Nat.reduceLT];refine hK_ _ ?_;clear hK_ K_)))
      refine zPy [.no,.no,.no,.no,.no,.no,.no,.no,.no,.no,.no,.no,.full,.full,.full] (by kernel_rfl) ?_
      (repeat' (first
  | (with_reducible first|refine zJx ?_|refine zGw ?_|refine zFz ?_|refine zEv ?_|refine zFy ?_|refine zJw ?_|refine zGv ?_|refine zCz ?_|refine zDw ?_|refine zCy ?_|refine zCv ?_|refine zEx ?_|refine zDz ?_|refine zCx ?_|refine zBx ?_|refine zEz ?_|refine zEy ?_|refine zAw ?_|refine zBy ?_)
  | refine zDy ?_|refine zEw rfl ?_|refine zIv ?_|refine zJy ?_
  | ((first|refine zGx rfl rfl rfl rfl rfl fun K_ hK_=>?_|refine zGy rfl rfl rfl rfl rfl fun K_ hK_=>?_);simp only [zAz,zDx,zGz,↓reduceIte,reduceCtorEq,Nat.reduceEqDiff,Bool.not_true,Bool.not_false];refine hK_ _ ?_;clear hK_ K_)
  | refine zDv (by decide) ?_
  | ((try first|refine zKy rfl rfl rfl ?_|refine zIw rfl rfl ?_|refine zKx rfl rfl rfl ?_|refine zJz rfl rfl ?_);(refine zIx fun Q_ hQ_=>?_;simp (disch:=first|omega|(simp only [List.length_cons,List.length_nil,List.length_append];omega)) only [bb,bp,zKv,↓reduceIte,reduceCtorEq,Nat.reduceEqDiff,Nat.reduceLT,Nat.reduceLeDiff,Nat.reduceAdd,Nat.reduceMul,Nat.reduceSub,Nat.reduceBEq,Int.reduceToNat,cond_true,cond_false,eq_self,beq_self_eq_true,g2,g4,g5,g6,g7,g8,a00,a01,ix0,ix1,hs,yTy,yXy,yTw,ySy,yTz,ySv,ySw,zFx wf,zHx wf,zBv wf,zFw wf,zAy wf,zAx,tEvZ2,zIy,zIz,zHv,zHw,zAv wf];first|(refine zCw (Q:=Q_) (fun hp_=>?_) (fun hp_=>?_) <;> first|(exfalso;omega)|(refine hQ_ _ _ ?_;clear hQ_ Q_))|(refine zBw (Q:=Q_) (fun hp_=>?_) (fun hp_=>?_) <;> first|(exfalso;omega)|(refine hQ_ _ _ ?_;clear hQ_ Q_))|(refine hQ_ _ _ ?_;clear hQ_ Q_)))
  | (refine zHz fun K_ hK_=>?_;simp (disch:=omega) only [zFv,zAz,zHy,↓reduceIte,reduceCtorEq,Nat.reduceEqDiff,Nat.reduceLT];refine hK_ _ ?_;clear hK_ K_)))
      exact zJv 1 (by decide) ⟨by omega,by simp only [zAz,↓reduceIte,reduceCtorEq,Nat.reduceEqDiff];exact g2,by simp only [zAz,↓reduceIte,reduceCtorEq,Nat.reduceEqDiff];exact g4,by simp only [zAz,↓reduceIte,reduceCtorEq,Nat.reduceEqDiff];exact g5,by simp only [zAz,↓reduceIte,reduceCtorEq,Nat.reduceEqDiff];exact g6,by simp only [zAz,↓reduceIte,reduceCtorEq,Nat.reduceEqDiff];exact g7,by simp only [zAz,↓reduceIte,reduceCtorEq,Nat.reduceEqDiff];rfl,rfl,_,by omega,by omega,rfl⟩
    · have g8:f 8 = .int .i64 1:=g8
      simp only [Nat.reduceLT,Nat.lt_irrefl,↓reduceIte]
      (repeat' (first
  | (with_reducible first|refine zJx ?_|refine zGw ?_|refine zFz ?_|refine zEv ?_|refine zFy ?_|refine zJw ?_|refine zGv ?_|refine zCz ?_|refine zDw ?_|refine zCy ?_|refine zCv ?_|refine zEx ?_|refine zDz ?_|refine zCx ?_|refine zBx ?_|refine zEz ?_|refine zEy ?_|refine zAw ?_|refine zBy ?_)
  | refine zDy ?_|refine zEw rfl ?_|refine zIv ?_|refine zJy ?_
  | ((first|refine zGx rfl rfl rfl rfl rfl fun K_ hK_=>?_|refine zGy rfl rfl rfl rfl rfl fun K_ hK_=>?_);simp only [zAz,zDx,zGz,↓reduceIte,reduceCtorEq,Nat.reduceEqDiff,Bool.not_true,Bool.not_false];refine hK_ _ ?_;clear hK_ K_)
  | refine zDv (by decide) ?_
  | ((try first|refine zKy rfl rfl rfl ?_|refine zIw rfl rfl ?_|refine zKx rfl rfl rfl ?_|refine zJz rfl rfl ?_);(refine zIx fun Q_ hQ_=>?_;simp (disch:=first|omega|(simp only [List.length_cons,List.length_nil,List.length_append];omega)) only [bb,bp,zKv,↓reduceIte,reduceCtorEq,Nat.reduceEqDiff,Nat.reduceLT,Nat.reduceLeDiff,Nat.reduceAdd,Nat.reduceMul,Nat.reduceSub,Nat.reduceBEq,Int.reduceToNat,cond_true,cond_false,eq_self,beq_self_eq_true,g2,g4,g5,g6,g7,g8,a10,a11,ix0,ix1,yTy,yXy,yTw,ySy,yTz,ySv,ySw,zFx wf,zHx wf,zBv wf,zFw wf,zAy wf,zAx,tEvZ2,zIy,zIz,zHv,zHw,zAv wf];first|(refine zCw (Q:=Q_) (fun hp_=>?_) (fun hp_=>?_) <;> first|(exfalso;omega)|(refine hQ_ _ _ ?_;clear hQ_ Q_))|(refine zBw (Q:=Q_) (fun hp_=>?_) (fun hp_=>?_) <;> first|(exfalso;omega)|(refine hQ_ _ _ ?_;clear hQ_ Q_))|(refine hQ_ _ _ ?_;clear hQ_ Q_)))
  | (refine zHz fun K_ hK_=>?_;simp (disch:=omega) only [zFv,zAz,zHy,↓reduceIte,reduceCtorEq,Nat.reduceEqDiff,Nat.reduceLT];refine hK_ _ ?_;clear hK_ K_)))
      exact zJv 2 (by decide) ⟨by omega,by simp only [zAz,↓reduceIte,reduceCtorEq,Nat.reduceEqDiff];exact g2,by simp only [zAz,↓reduceIte,reduceCtorEq,Nat.reduceEqDiff];exact g4,by simp only [zAz,↓reduceIte,reduceCtorEq,Nat.reduceEqDiff];exact g5,by simp only [zAz,↓reduceIte,reduceCtorEq,Nat.reduceEqDiff];exact g6,by simp only [zAz,↓reduceIte,reduceCtorEq,Nat.reduceEqDiff];exact g7,by simp only [zAz,↓reduceIte,reduceCtorEq,Nat.reduceEqDiff];rfl,rfl,_,by omega,by omega,rfl⟩
    · have g8:f 8 = .int .i64 2:=g8
      simp only [Nat.reduceLT,Nat.lt_irrefl,↓reduceIte]
      (repeat' (first
  | (with_reducible first|refine zJx ?_|refine zGw ?_|refine zFz ?_|refine zEv ?_|refine zFy ?_|refine zJw ?_|refine zGv ?_|refine zCz ?_|refine zDw ?_|refine zCy ?_|refine zCv ?_|refine zEx ?_|refine zDz ?_|refine zCx ?_|refine zBx ?_|refine zEz ?_|refine zEy ?_|refine zAw ?_|refine zBy ?_)
  | refine zDy ?_|refine zEw rfl ?_|refine zIv ?_|refine zJy ?_
  | ((first|refine zGx rfl rfl rfl rfl rfl fun K_ hK_=>?_|refine zGy rfl rfl rfl rfl rfl fun K_ hK_=>?_);simp only [zAz,zDx,zGz,↓reduceIte,reduceCtorEq,Nat.reduceEqDiff,Bool.not_true,Bool.not_false];refine hK_ _ ?_;clear hK_ K_)
  | refine zDv (by decide) ?_
  | ((try first|refine zKy rfl rfl rfl ?_|refine zIw rfl rfl ?_|refine zKx rfl rfl rfl ?_|refine zJz rfl rfl ?_);(refine zIx fun Q_ hQ_=>?_;simp (disch:=first|omega|(simp only [List.length_cons,List.length_nil,List.length_append];omega)) only [bb,bp,zKv,↓reduceIte,reduceCtorEq,Nat.reduceEqDiff,Nat.reduceLT,Nat.reduceLeDiff,Nat.reduceAdd,Nat.reduceMul,Nat.reduceSub,Nat.reduceBEq,Int.reduceToNat,cond_true,cond_false,eq_self,beq_self_eq_true,g2,g4,g5,g6,g7,g8,a20,zFx wf,zHx wf,zBv wf,zFw wf,zAy wf,zAx,tEvZ2,zIy,zIz,zHv,zHw,zAv wf];first|(refine zCw (Q:=Q_) (fun hp_=>?_) (fun hp_=>?_) <;> first|(exfalso;omega)|(refine hQ_ _ _ ?_;clear hQ_ Q_))|(refine zBw (Q:=Q_) (fun hp_=>?_) (fun hp_=>?_) <;> first|(exfalso;omega)|(refine hQ_ _ _ ?_;clear hQ_ Q_))|(refine hQ_ _ _ ?_;clear hQ_ Q_)))
  | (refine zHz fun K_ hK_=>?_;simp (disch:=omega) only [zFv,zAz,zHy,↓reduceIte,reduceCtorEq,Nat.reduceEqDiff,Nat.reduceLT];refine hK_ _ ?_;clear hK_ K_)))
      refine zKw _ _ rfl (retc0 (by decide) (by simp (disch:=first|omega|(simp only [List.length_cons,List.length_nil,List.length_append];omega)) only [bb,bp,zKv,↓reduceIte,reduceCtorEq,Nat.reduceEqDiff,Nat.reduceLT,Nat.reduceLeDiff,Nat.reduceAdd,Nat.reduceMul,Nat.reduceSub,Nat.reduceBEq,Int.reduceToNat,cond_true,cond_false,eq_self,beq_self_eq_true,g4,zBv wf,tEvZ2,zIy,zIz,zHv,zHw,zAv wf];rfl)) ?_
      refine zLy rfl (by omega) ?_
      exact ⟨rfl,rfl⟩
  · exact ⟨by omega,rfl,rfl,rfl,rfl,rfl,rfl,rfl,_,by omega,by omega,rfl⟩

theorem downB (a b p:Nat) (hp:64≤p∧p<128) (h:H) (wf:Wf h):(om Try.prog KK).call (.fn 78 [.agg [uu a,uu b],ii p]) h = .ok (.agg [uu (b >>> min (p - 64) 64),.int .u64 0]) h:=by
  have hd:((p:Int)).tdiv 64=1:=by rw [div64,show p / 64=1 by omega];rfl
  have hm:((p:Int)).tmod 64=((p - 64:Nat):Int):=by rw [mod64,show p % 64=p - 64 by omega]
  have n64:(64:Int)≠0:=by decide
  refine ySx (zMy (fn:=Try.f78) Try.func78 rfl rfl rfl rfl rfl ?_)
  simp only [zKv]
  (repeat' (first
  | (with_reducible first|refine zJx ?_|refine zGw ?_|refine zFz ?_|refine zEv ?_|refine zFy ?_|refine zJw ?_|refine zGv ?_|refine zCz ?_|refine zDw ?_|refine zCy ?_|refine zCv ?_|refine zEx ?_|refine zDz ?_|refine zCx ?_|refine zBx ?_|refine zEz ?_|refine zEy ?_|refine zAw ?_|refine zBy ?_)
  | refine zDy ?_|refine zEw rfl ?_|refine zIv ?_|refine zJy ?_
  | ((first|refine zGx rfl rfl rfl rfl rfl fun K_ hK_=>?_|refine zGy rfl rfl rfl rfl rfl fun K_ hK_=>?_);simp only [zAz,zDx,zGz,↓reduceIte,reduceCtorEq,Nat.reduceEqDiff,Bool.not_true,Bool.not_false];refine hK_ _ ?_;clear hK_ K_)
  | refine zDv (by decide) ?_
  | ((try first|refine zKy rfl rfl rfl ?_|refine zIw rfl rfl ?_|refine zKx rfl rfl rfl ?_|refine zJz rfl rfl ?_);(refine zIx fun Q_ hQ_=>?_;simp (disch:=first|omega|(simp only [List.length_cons,List.length_nil,List.length_append];omega)) only [bb,bp,zKv,↓reduceIte,reduceCtorEq,Nat.reduceEqDiff,Nat.reduceLT,Nat.reduceLeDiff,Nat.reduceAdd,Nat.reduceMul,Nat.reduceSub,Nat.reduceBEq,Int.reduceToNat,cond_true,cond_false,eq_self,beq_self_eq_true,b_quo n64,wAy n64,hd,hm,zFx wf,zHx wf,zBv wf,zFw wf,zAy wf,zAx,tEvZ2,zIy,zIz,zHv,zHw,zAv wf];first|(refine zCw (Q:=Q_) (fun hp_=>?_) (fun hp_=>?_) <;> first|(exfalso;omega)|(refine hQ_ _ _ ?_;clear hQ_ Q_))|(refine zBw (Q:=Q_) (fun hp_=>?_) (fun hp_=>?_) <;> first|(exfalso;omega)|(refine hQ_ _ _ ?_;clear hQ_ Q_))|(refine hQ_ _ _ ?_;clear hQ_ Q_)))
  | (refine zHz fun K_ hK_=>?_;simp (disch:=omega) only [zFv,zAz,zHy,↓reduceIte,reduceCtorEq,Nat.reduceEqDiff,Nat.reduceLT];refine hK_ _ ?_;clear hK_ K_)))
  refine zOw (fun (k:Nat) f d' h'=>k≤1∧f 2 = .ptr (nx h 0) 0∧f 4 = .ptr (nx h 1) 0∧f 5 = .int .i64 1∧f 6=ii ((p - 64:Nat):Int)∧f 7 = .ptr (nx h 2) 0∧f 8=ii (k:Int)∧d'=[] ∧
    ∃ w,h.clock≤w∧w≤h.clock+3∧h'=X h [.cells (zBz [uu a,uu b]) 57,.cells (zBz [.int .u64 0,.int .u64 0]) 57,.cells (zBz [if 0<k then uu (b >>> min (p - 64) 64) else .int .u64 0,.int .u64 0]) 57] w) (fun k=>2 - k) ?_ 3 0 (by omega) ?_
  · rintro k f d' h' ⟨hk,g2,g4,g5,g6,g7,g8,rfl,w,hw,hw2,rfl⟩
    rcases (by omega:k=0∨k=1) with rfl|rfl
    · have g8:f 8 = .int .i64 0:=g8
      simp only [Nat.reduceLT,Nat.lt_irrefl,↓reduceIte]
      (repeat' (first
  | (with_reducible first|refine zJx ?_|refine zGw ?_|refine zFz ?_|refine zEv ?_|refine zFy ?_|refine zJw ?_|refine zGv ?_|refine zCz ?_|refine zDw ?_|refine zCy ?_|refine zCv ?_|refine zEx ?_|refine zDz ?_|refine zCx ?_|refine zBx ?_|refine zEz ?_|refine zEy ?_|refine zAw ?_|refine zBy ?_)
  | refine zDy ?_|refine zEw rfl ?_|refine zIv ?_|refine zJy ?_
  | ((first|refine zGx rfl rfl rfl rfl rfl fun K_ hK_=>?_|refine zGy rfl rfl rfl rfl rfl fun K_ hK_=>?_);simp only [zAz,zDx,zGz,↓reduceIte,reduceCtorEq,Nat.reduceEqDiff,Bool.not_true,Bool.not_false];refine hK_ _ ?_;clear hK_ K_)
  | refine zDv (by decide) ?_
  | ((try first|refine zKy rfl rfl rfl ?_|refine zIw rfl rfl ?_|refine zKx rfl rfl rfl ?_|refine zJz rfl rfl ?_);(refine zIx fun Q_ hQ_=>?_;simp (disch:=first|omega|(simp only [List.length_cons,List.length_nil,List.length_append];omega)) only [bb,bp,zKv,↓reduceIte,reduceCtorEq,Nat.reduceEqDiff,Nat.reduceLT,Nat.reduceLeDiff,Nat.reduceAdd,Nat.reduceMul,Nat.reduceSub,Nat.reduceBEq,Int.reduceToNat,cond_true,cond_false,eq_self,beq_self_eq_true,g2,g4,g5,g6,g7,g8,a01,a11,ix0,ix1,yTy,yXy,yTw,ySy,yTz,ySv,ySw,zFx wf,zHx wf,zBv wf,zFw wf,zAy wf,zAx,tEvZ2,zIy,zIz,zHv,zHw,zAv wf];first|(refine zCw (Q:=Q_) (fun hp_=>?_) (fun hp_=>?_) <;> first|(exfalso;omega)|(refine hQ_ _ _ ?_;clear hQ_ Q_))|(refine zBw (Q:=Q_) (fun hp_=>?_) (fun hp_=>?_) <;> first|(exfalso;omega)|(refine hQ_ _ _ ?_;clear hQ_ Q_))|(refine hQ_ _ _ ?_;clear hQ_ Q_)))
  | (refine zHz fun K_ hK_=>?_;simp (disch:=omega) only [zFv,zAz,zHy,↓reduceIte,reduceCtorEq,Nat.reduceEqDiff,Nat.reduceLT];refine hK_ _ ?_;clear hK_ K_)))
      exact zJv 1 (by decide) ⟨by omega,by simp only [zAz,↓reduceIte,reduceCtorEq,Nat.reduceEqDiff];exact g2,by simp only [zAz,↓reduceIte,reduceCtorEq,Nat.reduceEqDiff];exact g4,by simp only [zAz,↓reduceIte,reduceCtorEq,Nat.reduceEqDiff];exact g5,by simp only [zAz,↓reduceIte,reduceCtorEq,Nat.reduceEqDiff];exact g6,by simp only [zAz,↓reduceIte,reduceCtorEq,Nat.reduceEqDiff];exact g7,by simp only [zAz,↓reduceIte,reduceCtorEq,Nat.reduceEqDiff];rfl,rfl,_,by omega,by omega,rfl⟩
    · have g8:f 8 = .int .i64 1:=g8
      simp only [Nat.reduceLT,Nat.lt_irrefl,↓reduceIte]
      (repeat' (first
  | (with_reducible first|refine zJx ?_|refine zGw ?_|refine zFz ?_|refine zEv ?_|refine zFy ?_|refine zJw ?_|refine zGv ?_|refine zCz ?_|refine zDw ?_|refine zCy ?_|refine zCv ?_|refine zEx ?_|refine zDz ?_|refine zCx ?_|refine zBx ?_|refine zEz ?_|refine zEy ?_|refine zAw ?_|refine zBy ?_)
  | refine zDy ?_|refine zEw rfl ?_|refine zIv ?_|refine zJy ?_
  | ((first|refine zGx rfl rfl rfl rfl rfl fun K_ hK_=>?_|refine zGy rfl rfl rfl rfl rfl fun K_ hK_=>?_);simp only [zAz,zDx,zGz,↓reduceIte,reduceCtorEq,Nat.reduceEqDiff,Bool.not_true,Bool.not_false];refine hK_ _ ?_;clear hK_ K_)
  | refine zDv (by decide) ?_
  | ((try first|refine zKy rfl rfl rfl ?_|refine zIw rfl rfl ?_|refine zKx rfl rfl rfl ?_|refine zJz rfl rfl ?_);(refine zIx fun Q_ hQ_=>?_;simp (disch:=first|omega|(simp only [List.length_cons,List.length_nil,List.length_append];omega)) only [bb,bp,zKv,↓reduceIte,reduceCtorEq,Nat.reduceEqDiff,Nat.reduceLT,Nat.reduceLeDiff,Nat.reduceAdd,Nat.reduceMul,Nat.reduceSub,Nat.reduceBEq,Int.reduceToNat,cond_true,cond_false,eq_self,beq_self_eq_true,g2,g4,g5,g6,g7,g8,a11,zFx wf,zHx wf,zBv wf,zFw wf,zAy wf,zAx,tEvZ2,zIy,zIz,zHv,zHw,zAv wf];first|(refine zCw (Q:=Q_) (fun hp_=>?_) (fun hp_=>?_) <;> first|(exfalso;omega)|(refine hQ_ _ _ ?_;clear hQ_ Q_))|(refine zBw (Q:=Q_) (fun hp_=>?_) (fun hp_=>?_) <;> first|(exfalso;omega)|(refine hQ_ _ _ ?_;clear hQ_ Q_))|(refine hQ_ _ _ ?_;clear hQ_ Q_)))
  | (refine zHz fun K_ hK_=>?_;simp (disch:=omega) only [zFv,zAz,zHy,↓reduceIte,reduceCtorEq,Nat.reduceEqDiff,Nat.reduceLT];refine hK_ _ ?_;clear hK_ K_)))
      refine zKw _ _ rfl (retc0 (by decide) (by simp (disch:=first|omega|(simp only [List.length_cons,List.length_nil,List.length_append];omega)) only [bb,bp,zKv,↓reduceIte,reduceCtorEq,Nat.reduceEqDiff,Nat.reduceLT,Nat.reduceLeDiff,Nat.reduceAdd,Nat.reduceMul,Nat.reduceSub,Nat.reduceBEq,Int.reduceToNat,cond_true,cond_false,eq_self,beq_self_eq_true,g4,zBv wf,tEvZ2,zIy,zIz,zHv,zHw,zAv wf];rfl)) ?_
      refine zLy rfl (by omega) ?_
      exact ⟨rfl,rfl⟩
  · exact ⟨by omega,rfl,rfl,rfl,rfl,rfl,rfl,rfl,_,by omega,by omega,rfl⟩

theorem downC (a b:Nat) (h:H) (wf:Wf h):(om Try.prog KK).call (.fn 78 [.agg [uu a,uu b],.int .i64 128]) h = .ok (.agg [.int .u64 0,.int .u64 0]) h:=by
  have hd:(128:Int).tdiv 64=2:=rfl
  have hm:(128:Int).tmod 64=0:=rfl
  have n64:(64:Int)≠0:=by decide
  refine ySx (zMy (fn:=Try.f78) Try.func78 rfl rfl rfl rfl rfl ?_)
  simp only [zKv]
  (repeat' (first
  | (with_reducible first|refine zJx ?_|refine zGw ?_|refine zFz ?_|refine zEv ?_|refine zFy ?_|refine zJw ?_|refine zGv ?_|refine zCz ?_|refine zDw ?_|refine zCy ?_|refine zCv ?_|refine zEx ?_|refine zDz ?_|refine zCx ?_|refine zBx ?_|refine zEz ?_|refine zEy ?_|refine zAw ?_|refine zBy ?_)
  | refine zDy ?_|refine zEw rfl ?_|refine zIv ?_|refine zJy ?_
  | ((first|refine zGx rfl rfl rfl rfl rfl fun K_ hK_=>?_|refine zGy rfl rfl rfl rfl rfl fun K_ hK_=>?_);simp only [zAz,zDx,zGz,↓reduceIte,reduceCtorEq,Nat.reduceEqDiff,Bool.not_true,Bool.not_false];refine hK_ _ ?_;clear hK_ K_)
  | refine zDv (by decide) ?_
  | ((try first|refine zKy rfl rfl rfl ?_|refine zIw rfl rfl ?_|refine zKx rfl rfl rfl ?_|refine zJz rfl rfl ?_);(refine zIx fun Q_ hQ_=>?_;simp (disch:=first|omega|(simp only [List.length_cons,List.length_nil,List.length_append];omega)) only [bb,bp,zKv,↓reduceIte,reduceCtorEq,Nat.reduceEqDiff,Nat.reduceLT,Nat.reduceLeDiff,Nat.reduceAdd,Nat.reduceMul,Nat.reduceSub,Nat.reduceBEq,Int.reduceToNat,cond_true,cond_false,eq_self,beq_self_eq_true,b_quo n64,wAy n64,hd,hm,zFx wf,zHx wf,zBv wf,zFw wf,zAy wf,zAx,tEvZ2,zIy,zIz,zHv,zHw,zAv wf];first|(refine zCw (Q:=Q_) (fun hp_=>?_) (fun hp_=>?_) <;> first|(exfalso;omega)|(refine hQ_ _ _ ?_;clear hQ_ Q_))|(refine zBw (Q:=Q_) (fun hp_=>?_) (fun hp_=>?_) <;> first|(exfalso;omega)|(refine hQ_ _ _ ?_;clear hQ_ Q_))|(refine hQ_ _ _ ?_;clear hQ_ Q_)))
  | (refine zHz fun K_ hK_=>?_;simp (disch:=omega) only [zFv,zAz,zHy,↓reduceIte,reduceCtorEq,Nat.reduceEqDiff,Nat.reduceLT];refine hK_ _ ?_;clear hK_ K_)))
  refine zOw (fun (k:Nat) f d' h'=>f 4 = .ptr (nx h 1) 0∧f 5 = .int .i64 2∧f 7 = .ptr (nx h 2) 0∧f 8 = .int .i64 0∧d'=[] ∧
    ∃ w,h.clock≤w∧w≤h.clock+3∧h'=X h [.cells (zBz [uu a,uu b]) 57,.cells (zBz [.int .u64 0,.int .u64 0]) 57,.cells (zBz [.int .u64 0,.int .u64 0]) 57] w) (fun k=>2 - k) ?_ 3 0 (by omega) ?_
  · rintro k f d' h' ⟨g4,g5,g7,g8,rfl,w,hw,hw2,rfl⟩
    (repeat' (first
  | (with_reducible first|refine zJx ?_|refine zGw ?_|refine zFz ?_|refine zEv ?_|refine zFy ?_|refine zJw ?_|refine zGv ?_|refine zCz ?_|refine zDw ?_|refine zCy ?_|refine zCv ?_|refine zEx ?_|refine zDz ?_|refine zCx ?_|refine zBx ?_|refine zEz ?_|refine zEy ?_|refine zAw ?_|refine zBy ?_)
  | refine zDy ?_|refine zEw rfl ?_|refine zIv ?_|refine zJy ?_
  | ((first|refine zGx rfl rfl rfl rfl rfl fun K_ hK_=>?_|refine zGy rfl rfl rfl rfl rfl fun K_ hK_=>?_);simp only [zAz,zDx,zGz,↓reduceIte,reduceCtorEq,Nat.reduceEqDiff,Bool.not_true,Bool.not_false];refine hK_ _ ?_;clear hK_ K_)
  | refine zDv (by decide) ?_
  | ((try first|refine zKy rfl rfl rfl ?_|refine zIw rfl rfl ?_|refine zKx rfl rfl rfl ?_|refine zJz rfl rfl ?_);(refine zIx fun Q_ hQ_=>?_;simp (disch:=first|omega|(simp only [List.length_cons,List.length_nil,List.length_append];omega)) only [bb,bp,zKv,↓reduceIte,reduceCtorEq,Nat.reduceEqDiff,Nat.reduceLT,Nat.reduceLeDiff,Nat.reduceAdd,Nat.reduceMul,Nat.reduceSub,Nat.reduceBEq,Int.reduceToNat,cond_true,cond_false,eq_self,beq_self_eq_true,g4,g5,g7,g8,a02,zFx wf,zHx wf,zBv wf,zFw wf,zAy wf,zAx,tEvZ2,zIy,zIz,zHv,zHw,zAv wf];first|(refine zCw (Q:=Q_) (fun hp_=>?_) (fun hp_=>?_) <;> first|(exfalso;omega)|(refine hQ_ _ _ ?_;clear hQ_ Q_))|(refine zBw (Q:=Q_) (fun hp_=>?_) (fun hp_=>?_) <;> first|(exfalso;omega)|(refine hQ_ _ _ ?_;clear hQ_ Q_))|(refine hQ_ _ _ ?_;clear hQ_ Q_)))
  | (refine zHz fun K_ hK_=>?_;simp (disch:=omega) only [zFv,zAz,zHy,↓reduceIte,reduceCtorEq,Nat.reduceEqDiff,Nat.reduceLT];refine hK_ _ ?_;clear hK_ K_)))
    refine zKw _ _ rfl (retc0 (by decide) (by simp (disch:=first|omega|(simp only [List.length_cons,List.length_nil,List.length_append];omega)) only [bb,bp,zKv,↓reduceIte,reduceCtorEq,Nat.reduceEqDiff,Nat.reduceLT,Nat.reduceLeDiff,Nat.reduceAdd,Nat.reduceMul,Nat.reduceSub,Nat.reduceBEq,Int.reduceToNat,cond_true,cond_false,eq_self,beq_self_eq_true,g4,zBv wf,tEvZ2,zIy,zIz,zHv,zHw,zAv wf];rfl)) ?_
    refine zLy rfl (by omega) ?_
    exact ⟨rfl,rfl⟩
  · exact ⟨rfl,rfl,rfl,rfl,rfl,_,by omega,by omega,rfl⟩
end Go.Proofs.Ytmincoafjnnkpaa
end

section
namespace Go.Ev
def wd (N:Nat):List AV:=[uu (N % 2 ^ 64),uu (N >>> 64)]
theorem upA_lo (N p:Nat) (hp:p<64):((N % 2 ^ 64) <<< min p 64) % 2 ^ 64=((N <<< p) % 2 ^ 128) % 2 ^ 64:=by
  rw [Nat.min_eq_left (by omega)]
  apply Nat.eq_of_testBit_eq;intro i
  simp only [Nat.testBit_or,Nat.testBit_mod_two_pow,Nat.testBit_shiftLeft,Nat.testBit_shiftRight]
  by_cases h1:i<64
  · simp [h1,show i<128 by omega,show i - p<64 by omega]
  · simp [h1]
theorem upA_hi (N p:Nat) (hp:p<64):(((((N >>> 64) <<< min p 64) % 2 ^ 64) ||| ((N % 2 ^ 64) >>> min (64 - p) 64)) % 2 ^ 64)=((N <<< p) % 2 ^ 128) >>> 64:=by
  rw [Nat.min_eq_left (by omega),Nat.min_eq_left (by omega)]
  apply Nat.eq_of_testBit_eq;intro i
  simp only [Nat.testBit_or,Nat.testBit_mod_two_pow,Nat.testBit_shiftLeft,Nat.testBit_shiftRight]
  by_cases h1:i<64
  · by_cases h2:p≤i
    · simp [h1,show 64+i<128 by omega,h2,show p≤64+i by omega,show 64+(i - p)=64+i - p by omega,show ¬ (64 - p+i<64) by omega]
    · simp [h1,show 64+i<128 by omega,h2,show p≤64+i by omega,show 64 - p+i=64+i - p by omega,show 64+i - p<64 by omega]
  · simp [h1]
    intro h;omega
theorem upB_hi (N p:Nat) (hp:64≤p∧p<128):((N % 2 ^ 64) <<< min (p - 64) 64) % 2 ^ 64=((N <<< p) % 2 ^ 128) >>> 64:=by
  rw [Nat.min_eq_left (by omega)]
  apply Nat.eq_of_testBit_eq;intro i
  simp only [Nat.testBit_or,Nat.testBit_mod_two_pow,Nat.testBit_shiftLeft,Nat.testBit_shiftRight]
  by_cases h1:i<64
  · by_cases h2:p≤64+i
    · simp [h1,show 64+i<128 by omega,h2,show p - 64≤i by omega,show i - (p - 64)=64+i - p by omega,show 64+i - p<64 by omega]
    · simp [h1,h2,show ¬ p - 64≤i by omega]
  · simp [h1]
    intro h;omega
theorem upB_lo (N p:Nat) (hp:64≤p):((N <<< p) % 2 ^ 128) % 2 ^ 64=0:=by
  apply Nat.eq_of_testBit_eq;intro i
  simp only [Nat.testBit_or,Nat.testBit_mod_two_pow,Nat.testBit_shiftLeft,Nat.testBit_shiftRight,Nat.zero_testBit]
  by_cases h1:i<64
  · simp [show ¬ p≤i by omega]
  · simp [h1]
theorem upC_hi (N:Nat):((N <<< 128) % 2 ^ 128) >>> 64=0:=by
  apply Nat.eq_of_testBit_eq;intro i
  simp only [Nat.testBit_or,Nat.testBit_mod_two_pow,Nat.testBit_shiftLeft,Nat.testBit_shiftRight,Nat.zero_testBit]
  by_cases h1:64+i<128
  · simp [show ¬ 128≤64+i by omega]
  · simp [h1]
theorem downA_lo (N p:Nat) (hp:p<64):((((N % 2 ^ 64) >>> min p 64) ||| (((N >>> 64) <<< min (64 - p) 64) % 2 ^ 64)) % 2 ^ 64)=(N >>> p) % 2 ^ 64:=by
  rw [Nat.min_eq_left (by omega),Nat.min_eq_left (by omega)]
  apply Nat.eq_of_testBit_eq;intro i
  simp only [Nat.testBit_or,Nat.testBit_mod_two_pow,Nat.testBit_shiftLeft,Nat.testBit_shiftRight]
  by_cases h1:i<64
  · by_cases h2:p+i<64
    · simp [h1,h2,show ¬ 64 - p≤i by omega]
    · simp [h1,h2,show 64 - p≤i by omega,show 64+(i - (64 - p))=p+i by omega]
  · simp [h1]
theorem downA_hi (N p:Nat) (hp:p<64):(N >>> 64) >>> min p 64=(N >>> p) >>> 64:=by
  rw [Nat.min_eq_left (by omega),← Nat.shiftRight_add,← Nat.shiftRight_add,Nat.add_comm]
theorem downB_lo (N p:Nat) (hN:N<2 ^ 128) (hp:64≤p∧p<128):(N >>> 64) >>> min (p - 64) 64=(N >>> p) % 2 ^ 64:=by
  rw [Nat.min_eq_left (by omega),← Nat.shiftRight_add,show 64+(p - 64)=p by omega]
  refine (Nat.mod_eq_of_lt ?_).symm
  rw [Nat.shiftRight_eq_div_pow]
  have:N / 2 ^ p≤N / 2 ^ 64:=Nat.div_le_div_left (Nat.pow_le_pow_right (by decide) hp.1) (Nat.two_pow_pos 64)
  omega
theorem downB_hi (N p:Nat) (hN:N<2 ^ 128) (hp:64≤p):(N >>> p) >>> 64=0:=by
  rw [← Nat.shiftRight_add,Nat.shiftRight_eq_div_pow]
  refine Nat.div_eq_of_lt (Nat.lt_of_lt_of_le hN (Nat.pow_le_pow_right (by decide) (by omega)))
theorem downC_lo (N:Nat) (hN:N<2 ^ 128):(N >>> 128) % 2 ^ 64=0:=by
  rw [Nat.shiftRight_eq_div_pow,Nat.div_eq_of_lt hN]
theorem wd_lt {N:Nat} (h:N<2 ^ 128):N >>> 64<2 ^ 64:=by
  rw [Nat.shiftRight_eq_div_pow];omega
theorem and_lo (N M:Nat):((N % 2 ^ 64) &&& (M % 2 ^ 64)) % 2 ^ 64=(N &&& M) % 2 ^ 64:=by
  rw [← Nat.and_mod_two_pow,Nat.mod_mod]
theorem and_hi {N M:Nat} (h:N<2 ^ 128):((N >>> 64) &&& (M >>> 64)) % 2 ^ 64=(N &&& M) >>> 64:=by
  rw [Nat.mod_eq_of_lt (Nat.lt_of_le_of_lt Nat.and_le_left (wd_lt h)),Nat.shiftRight_and_distrib]
theorem xor_lo (N M:Nat):((N % 2 ^ 64) ^^^ (M % 2 ^ 64)) % 2 ^ 64=(N ^^^ M) % 2 ^ 64:=by
  rw [← Nat.xor_mod_two_pow,Nat.mod_mod]
theorem xor_hi {N M:Nat} (h:N<2 ^ 128) (h':M<2 ^ 128):((N >>> 64) ^^^ (M >>> 64)) % 2 ^ 64=(N ^^^ M) >>> 64:=by
  rw [Nat.mod_eq_of_lt (Nat.xor_lt_two_pow (wd_lt h) (wd_lt h')),Nat.shiftRight_xor_distrib]
end Go.Ev
end

section
namespace Go.Ev
def cnt :Nat→(Nat→Bool)→Nat
  | 0,_=>0
  | n+1,f=>cnt n f+(f n).toNat
theorem xHx {f g:Nat→Bool} : ∀ {n:Nat},(∀ i,i<n→f i=g i)→cnt n f=cnt n g
  | 0,_=>rfl
  | n+1,h=>by
    show cnt n f+(f n).toNat=cnt n g+(g n).toNat
    rw [xHx (n:=n) (fun i hi=>h i (by omega)),h n (by omega)]
theorem xAy (f:Nat→Bool) (m:Nat) : ∀ n,cnt (m+n) f=cnt m f+cnt n (fun i=>f (m+i))
  | 0=>rfl
  | n+1=>by
    show cnt (m+n) f+(f (m+n)).toNat=cnt m f+(cnt n (fun i=>f (m+i))+(f (m+n)).toNat)
    rw [xAy f m n];omega
theorem xFw (f:Nat→Bool) : ∀ n,cnt n f≤n
  | 0=>Nat.le_refl _
  | n+1=>by
    have:=xFw f n
    show cnt n f+(f n).toNat≤n+1
    cases f n <;> simp <;> omega
def enc :List Nat→Nat
  | []=>0
  | d :: ds=>d+256 * enc ds
theorem xCz {d m E F:Nat} (hd:d<256) (hm:m<256):(d+256 * E) &&& (m+256 * F)=(d &&& m)+256 * (E &&& F):=by
  have hdm:d &&& m<2 ^ 8:=Nat.lt_of_le_of_lt Nat.and_le_left hd
  apply Nat.eq_of_testBit_eq;intro i
  rw [Nat.add_comm d,Nat.add_comm m,Nat.add_comm (d &&& m),Nat.testBit_and,show (256:Nat)=2 ^ 8 from rfl,Nat.testBit_two_pow_mul_add _ hd,Nat.testBit_two_pow_mul_add _ hm,Nat.testBit_two_pow_mul_add _ hdm]
  by_cases h:i<8
  · simp [h]
  · simp [h]
def m0 :Nat:=6148914691236517205
def m1 :Nat:=3689348814741910323
def m2 :Nat:=1085102592571150095
def oc1 (x:Nat):Nat:=(((x >>> min 1 64) &&& 6148914691236517205) % 2 ^ 64+(x &&& 6148914691236517205) % 2 ^ 64) % 2 ^ 64
def oc2 (x:Nat):Nat:=(((x >>> min 2 64) &&& 3689348814741910323) % 2 ^ 64+(x &&& 3689348814741910323) % 2 ^ 64) % 2 ^ 64
def oc3 (x:Nat):Nat:=(((x >>> min 4 64+x) % 2 ^ 64) &&& 1085102592571150095) % 2 ^ 64
def oc4 (x:Nat):Nat:=(x+x >>> min 8 64) % 2 ^ 64
def oc5 (x:Nat):Nat:=(x+x >>> min 16 64) % 2 ^ 64
def oc6 (x:Nat):Nat:=(x+x >>> min 32 64) % 2 ^ 64
def p1 (d:Nat):Nat:=((d / 2) &&& 85)+(d &&& 85)
def p2 (d:Nat):Nat:=((d / 4) &&& 51)+(d &&& 51)
def p3 (d:Nat):Nat:=(d / 16+d) &&& 15
theorem dg1 : ∀ d,d<256 → ∀ k,k<2→(d / 2+128 * k) &&& 85=(d / 2) &&& 85:=by decide +kernel
theorem dg2 : ∀ d,d<256 → ∀ k,k<4→(d / 4+64 * k) &&& 51=(d / 4) &&& 51:=by decide +kernel
theorem dg3 : ∀ d,d<69 → ∀ k,k<5→(d / 16+16 * k+d) &&& 15=p3 d:=by decide +kernel
theorem xKw : ∀ d,d<256→p1 d<256:=by decide +kernel
theorem xKx : ∀ d,d<256→p2 (p1 d)<69∧p2 (p1 d) % 16<5:=by decide +kernel
theorem xYz : ∀ d,d<256→p3 (p2 (p1 d))=cnt 8 d.testBit:=by decide +kernel
theorem and8 {a0 a1 a2 a3 a4 a5 a6 a7 c0 c1 c2 c3 c4 c5 c6 c7:Nat} (h0:a0<256) (h1:a1<256) (h2:a2<256) (h3:a3<256) (h4:a4<256) (h5:a5<256) (h6:a6<256) (h7:a7<256) (g0:c0<256) (g1:c1<256) (g2:c2<256) (g3:c3<256) (g4:c4<256) (g5:c5<256) (g6:c6<256) (g7:c7<256) :
    enc [a0,a1,a2,a3,a4,a5,a6,a7] &&& enc [c0,c1,c2,c3,c4,c5,c6,c7]=enc [a0 &&& c0,a1 &&& c1,a2 &&& c2,a3 &&& c3,a4 &&& c4,a5 &&& c5,a6 &&& c6,a7 &&& c7]:=by
  simp only [enc]
  rw [xCz h0 g0,xCz h1 g1,xCz h2 g2,xCz h3 g3,xCz h4 g4,xCz h5 g5,xCz h6 g6,xCz h7 g7]
  simp
theorem xAz {a0 a1 a2 a3 a4 a5 a6 a7:Nat} (h0:a0<256) (h1:a1<256) (h2:a2<256) (h3:a3<256) (h4:a4<256) (h5:a5<256) (h6:a6<256) (h7:a7<256):enc [a0,a1,a2,a3,a4,a5,a6,a7]<2 ^ 64:=by
  have e7:enc [a7]<2 ^ 8:=by simp only [enc];omega
  have e6:enc [a6,a7]<2 ^ 16:=by rw [enc];omega
  have e5:enc [a5,a6,a7]<2 ^ 24:=by rw [enc];clear e7;omega
  have e4:enc [a4,a5,a6,a7]<2 ^ 32:=by rw [enc];clear e6 e7;omega
  have e3:enc [a3,a4,a5,a6,a7]<2 ^ 40:=by rw [enc];clear e5 e6 e7;omega
  have e2:enc [a2,a3,a4,a5,a6,a7]<2 ^ 48:=by rw [enc];clear e4 e5 e6 e7;omega
  have e1:enc [a1,a2,a3,a4,a5,a6,a7]<2 ^ 56:=by rw [enc];clear e3 e4 e5 e6 e7;omega
  rw [enc];clear e2 e3 e4 e5 e6 e7;omega
theorem shr1 (d e:Nat) (ds:List Nat) (hd:d<256) (he:e<256):enc (d :: e :: ds) / 2=(d / 2+128 * (e % 2))+256 * (enc (e :: ds) / 2):=by
  simp only [enc];omega
theorem shl1 (d:Nat):enc [d] / 2=d / 2:=by simp only [enc];omega
theorem shr2 (d e:Nat) (ds:List Nat) (hd:d<256) (he:e<256):enc (d :: e :: ds) / 4=(d / 4+64 * (e % 4))+256 * (enc (e :: ds) / 4):=by
  simp only [enc];omega
theorem shl2 (d:Nat):enc [d] / 4=d / 4:=by simp only [enc];omega
theorem shr4 (d e:Nat) (ds:List Nat) (hd:d<256) (he:e<256):enc (d :: e :: ds) / 16=(d / 16+16 * (e % 16))+256 * (enc (e :: ds) / 16):=by
  simp only [enc];omega
theorem shl4 (d:Nat):enc [d] / 16=d / 16:=by simp only [enc];omega
theorem wBz (d:Nat) (ds:List Nat):enc (d :: ds)=d+256 * enc ds:=rfl
theorem xNv (d:Nat) (ds:List Nat) (hd:d<256):enc (d :: ds) / 256=enc ds:=by
  simp only [enc];omega
theorem xCy (a c E F:Nat):(a+256 * E)+(c+256 * F)=(a+c)+256 * (E+F):=by omega
theorem xKz (a0 a1 a2 a3 a4 a5 a6 a7 c0 c1 c2 c3 c4 c5 c6 c7:Nat):enc [a0,a1,a2,a3,a4,a5,a6,a7]+enc [c0,c1,c2,c3,c4,c5,c6,c7]=enc [a0+c0,a1+c1,a2+c2,a3+c3,a4+c4,a5+c5,a6+c6,a7+c7]:=by
  simp only [enc]
  rw [xCy,xCy,xCy,xCy,xCy,xCy,xCy,xCy]
theorem sh1_enc {d0 d1 d2 d3 d4 d5 d6 d7:Nat} (h0:d0<256) (h1:d1<256) (h2:d2<256) (h3:d3<256) (h4:d4<256) (h5:d5<256) (h6:d6<256) (h7:d7<256):enc [d0,d1,d2,d3,d4,d5,d6,d7] / 2=enc [d0 / 2+128 * (d1 % 2),d1 / 2+128 * (d2 % 2),d2 / 2+128 * (d3 % 2),d3 / 2+128 * (d4 % 2),d4 / 2+128 * (d5 % 2),d5 / 2+128 * (d6 % 2),d6 / 2+128 * (d7 % 2),d7 / 2]:=by
  rw [shr1 d0 d1 _ h0 h1,shr1 d1 d2 _ h1 h2,shr1 d2 d3 _ h2 h3,shr1 d3 d4 _ h3 h4,shr1 d4 d5 _ h4 h5,shr1 d5 d6 _ h5 h6,shr1 d6 d7 _ h6 h7,shl1]
  simp only [wBz]
  simp only [enc,Nat.mul_zero,Nat.add_zero]
theorem sh2_enc {d0 d1 d2 d3 d4 d5 d6 d7:Nat} (h0:d0<256) (h1:d1<256) (h2:d2<256) (h3:d3<256) (h4:d4<256) (h5:d5<256) (h6:d6<256) (h7:d7<256):enc [d0,d1,d2,d3,d4,d5,d6,d7] / 4=enc [d0 / 4+64 * (d1 % 4),d1 / 4+64 * (d2 % 4),d2 / 4+64 * (d3 % 4),d3 / 4+64 * (d4 % 4),d4 / 4+64 * (d5 % 4),d5 / 4+64 * (d6 % 4),d6 / 4+64 * (d7 % 4),d7 / 4]:=by
  rw [shr2 d0 d1 _ h0 h1,shr2 d1 d2 _ h1 h2,shr2 d2 d3 _ h2 h3,shr2 d3 d4 _ h3 h4,shr2 d4 d5 _ h4 h5,shr2 d5 d6 _ h5 h6,shr2 d6 d7 _ h6 h7,shl2]
  simp only [wBz]
  simp only [enc,Nat.mul_zero,Nat.add_zero]
theorem sh4_enc {d0 d1 d2 d3 d4 d5 d6 d7:Nat} (h0:d0<256) (h1:d1<256) (h2:d2<256) (h3:d3<256) (h4:d4<256) (h5:d5<256) (h6:d6<256) (h7:d7<256):enc [d0,d1,d2,d3,d4,d5,d6,d7] / 16=enc [d0 / 16+16 * (d1 % 16),d1 / 16+16 * (d2 % 16),d2 / 16+16 * (d3 % 16),d3 / 16+16 * (d4 % 16),d4 / 16+16 * (d5 % 16),d5 / 16+16 * (d6 % 16),d6 / 16+16 * (d7 % 16),d7 / 16]:=by
  rw [shr4 d0 d1 _ h0 h1,shr4 d1 d2 _ h1 h2,shr4 d2 d3 _ h2 h3,shr4 d3 d4 _ h3 h4,shr4 d4 d5 _ h4 h5,shr4 d5 d6 _ h5 h6,shr4 d6 d7 _ h6 h7,shl4]
  simp only [wBz]
  simp only [enc,Nat.mul_zero,Nat.add_zero]
theorem oc1_enc {d0 d1 d2 d3 d4 d5 d6 d7:Nat} (h0:d0<256) (h1:d1<256) (h2:d2<256) (h3:d3<256) (h4:d4<256) (h5:d5<256) (h6:d6<256) (h7:d7<256):oc1 (enc [d0,d1,d2,d3,d4,d5,d6,d7])=enc [p1 d0,p1 d1,p1 d2,p1 d3,p1 d4,p1 d5,p1 d6,p1 d7]:=by
  have em:(6148914691236517205:Nat)=enc [85,85,85,85,85,85,85,85]:=by decide
  have b0:=xKw _ h0
  have b1:=xKw _ h1
  have b2:=xKw _ h2
  have b3:=xKw _ h3
  have b4:=xKw _ h4
  have b5:=xKw _ h5
  have b6:=xKw _ h6
  have b7:=xKw _ h7
  unfold oc1
  rw [Nat.shiftRight_eq_div_pow,show (2:Nat) ^ min 1 64=2 from rfl,sh1_enc h0 h1 h2 h3 h4 h5 h6 h7,em,and8 (by omega) (by omega) (by omega) (by omega) (by omega) (by omega) (by omega) (by omega) (by omega) (by omega) (by omega) (by omega) (by omega) (by omega) (by omega) (by omega),
    and8 h0 h1 h2 h3 h4 h5 h6 h7 (by omega) (by omega) (by omega) (by omega) (by omega) (by omega) (by omega) (by omega),
    dg1 _ h0 _ (by omega),dg1 _ h1 _ (by omega),dg1 _ h2 _ (by omega),dg1 _ h3 _ (by omega),dg1 _ h4 _ (by omega),dg1 _ h5 _ (by omega),dg1 _ h6 _ (by omega)]
  unfold p1 at *
  rw [Nat.mod_eq_of_lt (xAz (by omega) (by omega) (by omega) (by omega) (by omega) (by omega) (by omega) (by omega)),Nat.mod_eq_of_lt (xAz (by omega) (by omega) (by omega) (by omega) (by omega) (by omega) (by omega) (by omega)),xKz]
  exact Nat.mod_eq_of_lt (xAz (by omega) (by omega) (by omega) (by omega) (by omega) (by omega) (by omega) (by omega))
theorem oc2_enc {d0 d1 d2 d3 d4 d5 d6 d7:Nat} (h0:d0<256) (h1:d1<256) (h2:d2<256) (h3:d3<256) (h4:d4<256) (h5:d5<256) (h6:d6<256) (h7:d7<256) (b0:p2 d0<69) (b1:p2 d1<69) (b2:p2 d2<69) (b3:p2 d3<69) (b4:p2 d4<69) (b5:p2 d5<69) (b6:p2 d6<69) (b7:p2 d7<69):oc2 (enc [d0,d1,d2,d3,d4,d5,d6,d7])=enc [p2 d0,p2 d1,p2 d2,p2 d3,p2 d4,p2 d5,p2 d6,p2 d7]:=by
  have em:(3689348814741910323:Nat)=enc [51,51,51,51,51,51,51,51]:=by decide
  unfold oc2
  rw [Nat.shiftRight_eq_div_pow,show (2:Nat) ^ min 2 64=4 from rfl,sh2_enc h0 h1 h2 h3 h4 h5 h6 h7,em,and8 (by omega) (by omega) (by omega) (by omega) (by omega) (by omega) (by omega) (by omega) (by omega) (by omega) (by omega) (by omega) (by omega) (by omega) (by omega) (by omega),
    and8 h0 h1 h2 h3 h4 h5 h6 h7 (by omega) (by omega) (by omega) (by omega) (by omega) (by omega) (by omega) (by omega),
    dg2 _ h0 _ (by omega),dg2 _ h1 _ (by omega),dg2 _ h2 _ (by omega),dg2 _ h3 _ (by omega),dg2 _ h4 _ (by omega),dg2 _ h5 _ (by omega),dg2 _ h6 _ (by omega)]
  unfold p2 at *
  rw [Nat.mod_eq_of_lt (xAz (by omega) (by omega) (by omega) (by omega) (by omega) (by omega) (by omega) (by omega)),Nat.mod_eq_of_lt (xAz (by omega) (by omega) (by omega) (by omega) (by omega) (by omega) (by omega) (by omega)),xKz]
  exact Nat.mod_eq_of_lt (xAz (by omega) (by omega) (by omega) (by omega) (by omega) (by omega) (by omega) (by omega))
theorem dg3' (d:Nat):(d / 16+d) &&& 15=p3 d:=rfl
theorem oc3_enc {d0 d1 d2 d3 d4 d5 d6 d7:Nat} (h0:d0<69∧d0 % 16<5) (h1:d1<69∧d1 % 16<5) (h2:d2<69∧d2 % 16<5) (h3:d3<69∧d3 % 16<5) (h4:d4<69∧d4 % 16<5) (h5:d5<69∧d5 % 16<5) (h6:d6<69∧d6 % 16<5) (h7:d7<69∧d7 % 16<5):oc3 (enc [d0,d1,d2,d3,d4,d5,d6,d7])=enc [p3 d0,p3 d1,p3 d2,p3 d3,p3 d4,p3 d5,p3 d6,p3 d7]:=by
  have em:(1085102592571150095:Nat)=enc [15,15,15,15,15,15,15,15]:=by decide
  have q : ∀ d,p3 d<16:=fun d=>Nat.lt_of_le_of_lt Nat.and_le_right (by decide)
  unfold oc3
  rw [Nat.shiftRight_eq_div_pow,show (2:Nat) ^ min 4 64=16 from rfl,sh4_enc (by omega) (by omega) (by omega) (by omega) (by omega) (by omega) (by omega) (by omega),em,xKz,Nat.mod_eq_of_lt (xAz (by omega) (by omega) (by omega) (by omega) (by omega) (by omega) (by omega) (by omega)),and8 (by omega) (by omega) (by omega) (by omega) (by omega) (by omega) (by omega) (by omega) (by omega) (by omega) (by omega) (by omega) (by omega) (by omega) (by omega) (by omega),
    dg3 _ h0.1 _ (by omega),dg3 _ h1.1 _ (by omega),dg3 _ h2.1 _ (by omega),dg3 _ h3.1 _ (by omega),dg3 _ h4.1 _ (by omega),dg3 _ h5.1 _ (by omega),dg3 _ h6.1 _ (by omega),dg3']
  exact Nat.mod_eq_of_lt (xAz (Nat.lt_of_lt_of_le (q d0) (by decide)) (Nat.lt_of_lt_of_le (q d1) (by decide)) (Nat.lt_of_lt_of_le (q d2) (by decide)) (Nat.lt_of_lt_of_le (q d3) (by decide)) (Nat.lt_of_lt_of_le (q d4) (by decide)) (Nat.lt_of_lt_of_le (q d5) (by decide)) (Nat.lt_of_lt_of_le (q d6) (by decide)) (Nat.lt_of_lt_of_le (q d7) (by decide)))
theorem oc6_enc {d0 d1 d2 d3 d4 d5 d6 d7:Nat} (h0:d0≤8) (h1:d1≤8) (h2:d2≤8) (h3:d3≤8) (h4:d4≤8) (h5:d5≤8) (h6:d6≤8) (h7:d7≤8) :
    oc6 (oc5 (oc4 (enc [d0,d1,d2,d3,d4,d5,d6,d7])))<2 ^ 63∧oc6 (oc5 (oc4 (enc [d0,d1,d2,d3,d4,d5,d6,d7]))) % 128=d0+d1+d2+d3+d4+d5+d6+d7:=by
  have z1 : ∀ a b c d e f g,enc [a,b,c,d,e,f,g]=enc [a,b,c,d,e,f,g,0]:=fun _ _ _ _ _ _ _=>by simp only [enc]
  have z2 : ∀ a b c d e f,enc [a,b,c,d,e,f]=enc [a,b,c,d,e,f,0,0]:=fun _ _ _ _ _ _=>by simp only [enc]
  have z4 : ∀ a b c d,enc [a,b,c,d]=enc [a,b,c,d,0,0,0,0]:=fun _ _ _ _=>by simp only [enc]
  have v16 : ∀ x,x / 65536=x / 256 / 256:=fun x=>by rw [Nat.div_div_eq_div_mul]
  have v32 : ∀ x,x / 4294967296=x / 256 / 256 / 256 / 256:=fun x=>by rw [Nat.div_div_eq_div_mul,Nat.div_div_eq_div_mul,Nat.div_div_eq_div_mul]
  have e4:oc4 (enc [d0,d1,d2,d3,d4,d5,d6,d7])=enc [d0+d1,d1+d2,d2+d3,d3+d4,d4+d5,d5+d6,d6+d7,d7+0]:=by
    unfold oc4;rw [Nat.shiftRight_eq_div_pow,show (2:Nat) ^ min 8 64=256 from rfl,xNv _ _ (by omega),z1,xKz]
    exact Nat.mod_eq_of_lt (xAz (by omega) (by omega) (by omega) (by omega) (by omega) (by omega) (by omega) (by omega))
  have e5:oc5 (enc [d0+d1,d1+d2,d2+d3,d3+d4,d4+d5,d5+d6,d6+d7,d7+0])=enc [d0+d1+(d2+d3),d1+d2+(d3+d4),d2+d3+(d4+d5),d3+d4+(d5+d6),d4+d5+(d6+d7),d5+d6+(d7+0),d6+d7+0,d7+0+0]:=by
    unfold oc5;rw [Nat.shiftRight_eq_div_pow,show (2:Nat) ^ min 16 64=65536 from rfl,v16,xNv _ _ (by omega),xNv _ _ (by omega),z2,xKz]
    exact Nat.mod_eq_of_lt (xAz (by omega) (by omega) (by omega) (by omega) (by omega) (by omega) (by omega) (by omega))
  have e6:oc6 (enc [d0+d1+(d2+d3),d1+d2+(d3+d4),d2+d3+(d4+d5),d3+d4+(d5+d6),d4+d5+(d6+d7),d5+d6+(d7+0),d6+d7+0,d7+0+0])=enc [d0+d1+(d2+d3)+(d4+d5+(d6+d7)),d1+d2+(d3+d4)+(d5+d6+(d7+0)),d2+d3+(d4+d5)+(d6+d7+0),d3+d4+(d5+d6)+(d7+0+0),d4+d5+(d6+d7)+0,d5+d6+(d7+0)+0,d6+d7+0+0,d7+0+0+0]:=by
    unfold oc6;rw [Nat.shiftRight_eq_div_pow,show (2:Nat) ^ min 32 64=4294967296 from rfl,v32,xNv _ _ (by omega),xNv _ _ (by omega),xNv _ _ (by omega),xNv _ _ (by omega),z4,xKz]
    exact Nat.mod_eq_of_lt (xAz (by omega) (by omega) (by omega) (by omega) (by omega) (by omega) (by omega) (by omega))
  rw [e4,e5,e6]
  constructor
  · simp only [enc];omega
  · rw [wBz];generalize enc _=E;omega
theorem digs (x:Nat) (hx:x<2 ^ 64):x=enc [x % 256,x / 256 % 256,x / 256 / 256 % 256,x / 256 / 256 / 256 % 256,x / 256 / 256 / 256 / 256 % 256,x / 256 / 256 / 256 / 256 / 256 % 256,x / 256 / 256 / 256 / 256 / 256 / 256 % 256,x / 256 / 256 / 256 / 256 / 256 / 256 / 256 % 256]:=by
  have hz:x / 256 / 256 / 256 / 256 / 256 / 256 / 256 / 256=0:=by
    simp only [Nat.div_div_eq_div_mul];exact Nat.div_eq_of_lt hx
  simp only [enc,Nat.mul_zero,Nat.add_zero]
  have t : ∀ y,y % 256+256 * (y / 256)=y:=fun y=>Nat.mod_add_div y 256
  have t7:=t (x / 256 / 256 / 256 / 256 / 256 / 256 / 256)
  rw [hz,Nat.mul_zero,Nat.add_zero] at t7
  rw [t7,t,t,t,t,t,t,t]
theorem xBw (x y k:Nat) (hy:y=x / 2 ^ k):cnt 8 (y % 256).testBit=cnt 8 (fun i=>x.testBit (k+i)):=by
  subst hy
  refine xHx fun i hi=>?_
  rw [show (256:Nat)=2 ^ 8 from rfl,Nat.testBit_mod_two_pow,Nat.testBit_div_two_pow,Nat.add_comm i k]
  simp [hi]
theorem cnt_zero (f:Nat→Bool):cnt 0 f=0:=rfl
theorem oc_all {x:Nat} (hx:x<2 ^ 64):oc6 (oc5 (oc4 (oc3 (oc2 (oc1 x)))))<2 ^ 63∧oc6 (oc5 (oc4 (oc3 (oc2 (oc1 x))))) &&& 127=cnt 64 x.testBit:=by
  have e:=digs x hx
  have c0:=xBw x x 0 (by rw [Nat.pow_zero,Nat.div_one])
  have c1:=xBw x (x / 256) 8 rfl
  have c2:=xBw x (x / 256 / 256) 16 (by simp only [Nat.div_div_eq_div_mul])
  have c3:=xBw x (x / 256 / 256 / 256) 24 (by simp only [Nat.div_div_eq_div_mul])
  have c4:=xBw x (x / 256 / 256 / 256 / 256) 32 (by simp only [Nat.div_div_eq_div_mul])
  have c5:=xBw x (x / 256 / 256 / 256 / 256 / 256) 40 (by simp only [Nat.div_div_eq_div_mul])
  have c6:=xBw x (x / 256 / 256 / 256 / 256 / 256 / 256) 48 (by simp only [Nat.div_div_eq_div_mul])
  have c7:=xBw x (x / 256 / 256 / 256 / 256 / 256 / 256 / 256) 56 (by simp only [Nat.div_div_eq_div_mul])
  have ec:cnt 64 x.testBit=cnt 8 (fun i=>x.testBit (0+i))+cnt 8 (fun i=>x.testBit (8+i))+cnt 8 (fun i=>x.testBit (16+i))+cnt 8 (fun i=>x.testBit (24+i))+cnt 8 (fun i=>x.testBit (32+i))+cnt 8 (fun i=>x.testBit (40+i))+cnt 8 (fun i=>x.testBit (48+i))+cnt 8 (fun i=>x.testBit (56+i)):=by
    rw [show 64=0+8+8+8+8+8+8+8+8 from rfl,xAy,xAy,xAy,xAy,xAy,xAy,xAy,xAy,cnt_zero,Nat.zero_add]
  have l : ∀ y,y % 256<256:=fun y=>Nat.mod_lt _ (by decide)
  have l0:=l x
  have l1:=l (x / 256)
  have l2:=l (x / 256 / 256)
  have l3:=l (x / 256 / 256 / 256)
  have l4:=l (x / 256 / 256 / 256 / 256)
  have l5:=l (x / 256 / 256 / 256 / 256 / 256)
  have l6:=l (x / 256 / 256 / 256 / 256 / 256 / 256)
  have l7:=l (x / 256 / 256 / 256 / 256 / 256 / 256 / 256)
  clear l hx
  generalize x / 256 / 256 / 256 / 256 / 256 / 256 / 256 % 256=d7 at *
  generalize x / 256 / 256 / 256 / 256 / 256 / 256 % 256=d6 at *
  generalize x / 256 / 256 / 256 / 256 / 256 % 256=d5 at *
  generalize x / 256 / 256 / 256 / 256 % 256=d4 at *
  generalize x / 256 / 256 / 256 % 256=d3 at *
  generalize x / 256 / 256 % 256=d2 at *
  generalize x / 256 % 256=d1 at *
  generalize x % 256=d0 at *
  have E:oc3 (oc2 (oc1 x))=enc [cnt 8 d0.testBit,cnt 8 d1.testBit,cnt 8 d2.testBit,cnt 8 d3.testBit,cnt 8 d4.testBit,cnt 8 d5.testBit,cnt 8 d6.testBit,cnt 8 d7.testBit]:=by
    rw [e,oc1_enc l0 l1 l2 l3 l4 l5 l6 l7,oc2_enc (xKw _ l0) (xKw _ l1) (xKw _ l2) (xKw _ l3) (xKw _ l4) (xKw _ l5) (xKw _ l6) (xKw _ l7) (xKx _ l0).1 (xKx _ l1).1 (xKx _ l2).1 (xKx _ l3).1 (xKx _ l4).1 (xKx _ l5).1 (xKx _ l6).1 (xKx _ l7).1,
      oc3_enc (xKx _ l0) (xKx _ l1) (xKx _ l2) (xKx _ l3) (xKx _ l4) (xKx _ l5) (xKx _ l6) (xKx _ l7),xYz _ l0,xYz _ l1,xYz _ l2,xYz _ l3,xYz _ l4,xYz _ l5,xYz _ l6,xYz _ l7]
  rw [E,show (127:Nat)=2 ^ 7 - 1 from rfl,Nat.and_two_pow_sub_one_eq_mod,ec,← c0,← c1,← c2,← c3,← c4,← c5,← c6,← c7]
  exact oc6_enc (xFw _ 8) (xFw _ 8) (xFw _ 8) (xFw _ 8) (xFw _ 8) (xFw _ 8) (xFw _ 8) (xFw _ 8)
end Go.Ev
end

section
namespace Go.Proofs.Ytmincoafjnnkpaa
open Go.Ev
set_option maxRecDepth 100000
set_option linter.unusedSimpArgs false
set_option linter.unusedVariables false
set_option maxHeartbeats 2000000
theorem tEvZ3 :type_of% (And.intro (And.intro (And.intro (And.intro (And.intro (And.intro (And.intro (@yQx) (@yQy)) (And.intro (@yQz) (@yPv))) (And.intro (And.intro (@yPw) (@yPx)) (And.intro (@ia_2) (And.intro (@ia_3) (@ia_4))))) (And.intro (And.intro (And.intro (@ia_5) (@yPy)) (And.intro (@yPz) (@yOv))) (And.intro (And.intro (@yOw) (@yOx)) (And.intro (@yOy) (And.intro (@zRv) (@yOz)))))) (And.intro (And.intro (And.intro (And.intro (@yNv) (@yNw)) (And.intro (@yNx) (@yNy))) (And.intro (And.intro (@yNz) (@yMv)) (And.intro (@yMw) (And.intro (@yMx) (@sz_2))))) (And.intro (And.intro (And.intro (@sz_3) (@sz_4)) (And.intro (@sz_5) (And.intro (@zQv) (@zYw)))) (And.intro (And.intro (@zYx) (@zYy)) (And.intro (@zYz) (And.intro (@zXv) (@zRx))))))) (And.intro (And.intro (And.intro (And.intro (And.intro (@zXw) (@zXx)) (And.intro (@zXy) (@zQx))) (And.intro (And.intro (@zXz) (@zWv)) (And.intro (@zWw) (And.intro (@zWx) (@zWy))))) (And.intro (And.intro (And.intro (@ze_2) (@ze_3)) (And.intro (@ze_4) (And.intro (@ze_5) (@zWz)))) (And.intro (And.intro (@zVv) (@zVw)) (And.intro (@zVx) (And.intro (@zVy) (@zVz)))))) (And.intro (And.intro (And.intro (And.intro (@zUv) (@zUw)) (And.intro (@zUx) (@zUy))) (And.intro (And.intro (@zUz) (@zTv)) (And.intro (@zTw) (And.intro (@zTx) (@zTy))))) (And.intro (And.intro (And.intro (@zOy) (@zOz)) (And.intro (@zNv) (And.intro (@zNw) (@zNx)))) (And.intro (And.intro (@zNy) (@zNz)) (And.intro (@zMv) (And.intro (@zMw) (@yMy)))))))) (And.intro (And.intro (And.intro (And.intro (And.intro (And.intro (@yMz) (@yLv)) (And.intro (@yLw) (@yLx))) (And.intro (And.intro (@yLy) (@yLz)) (And.intro (@yKv) (And.intro (@yKw) (@yKx))))) (And.intro (And.intro (And.intro (@yKy) (@yKz)) (And.intro (@yJv) (@yJw))) (And.intro (And.intro (@yJx) (@yJy)) (And.intro (@yJz) (And.intro (@yIv) (@yIw)))))) (And.intro (And.intro (And.intro (And.intro (@yIx) (@yIy)) (And.intro (@yIz) (@yHv))) (And.intro (And.intro (@yHw) (@yHx)) (And.intro (@yHy) (And.intro (@yHz) (@yGv))))) (And.intro (And.intro (And.intro (@yGw) (@yGx)) (And.intro (@yGy) (And.intro (@yGz) (@yFv)))) (And.intro (And.intro (@yFw) (@yFx)) (And.intro (@yFy) (And.intro (@yFz) (@yEv))))))) (And.intro (And.intro (And.intro (And.intro (And.intro (@yEw) (@yEx)) (And.intro (@yEy) (@yEz))) (And.intro (And.intro (@yDv) (@yDw)) (And.intro (@yDx) (And.intro (@yDy) (@yDz))))) (And.intro (And.intro (And.intro (@yCv) (@yCw)) (And.intro (@yCx) (And.intro (@yCy) (@yCz)))) (And.intro (And.intro (@zSz) (@yBv)) (And.intro (@yBw) (And.intro (@yBx) (@yBy)))))) (And.intro (And.intro (And.intro (And.intro (@yBz) (@yAv)) (And.intro (@yAw) (@yAx))) (And.intro (And.intro (@yAy) (@yAz)) (And.intro (@zZv) (And.intro (@zZw) (@zZx))))) (And.intro (And.intro (And.intro (@zZy) (@zZz)) (And.intro (@zQy) (And.intro (@zSv) (@zSw)))) (And.intro (And.intro (@zQw) (@zSx)) (And.intro (@zRy) (And.intro (@zSy) (@zRw))))))))):=And.intro (And.intro (And.intro (And.intro (And.intro (And.intro (And.intro (@yQx) (@yQy)) (And.intro (@yQz) (@yPv))) (And.intro (And.intro (@yPw) (@yPx)) (And.intro (@ia_2) (And.intro (@ia_3) (@ia_4))))) (And.intro (And.intro (And.intro (@ia_5) (@yPy)) (And.intro (@yPz) (@yOv))) (And.intro (And.intro (@yOw) (@yOx)) (And.intro (@yOy) (And.intro (@zRv) (@yOz)))))) (And.intro (And.intro (And.intro (And.intro (@yNv) (@yNw)) (And.intro (@yNx) (@yNy))) (And.intro (And.intro (@yNz) (@yMv)) (And.intro (@yMw) (And.intro (@yMx) (@sz_2))))) (And.intro (And.intro (And.intro (@sz_3) (@sz_4)) (And.intro (@sz_5) (And.intro (@zQv) (@zYw)))) (And.intro (And.intro (@zYx) (@zYy)) (And.intro (@zYz) (And.intro (@zXv) (@zRx))))))) (And.intro (And.intro (And.intro (And.intro (And.intro (@zXw) (@zXx)) (And.intro (@zXy) (@zQx))) (And.intro (And.intro (@zXz) (@zWv)) (And.intro (@zWw) (And.intro (@zWx) (@zWy))))) (And.intro (And.intro (And.intro (@ze_2) (@ze_3)) (And.intro (@ze_4) (And.intro (@ze_5) (@zWz)))) (And.intro (And.intro (@zVv) (@zVw)) (And.intro (@zVx) (And.intro (@zVy) (@zVz)))))) (And.intro (And.intro (And.intro (And.intro (@zUv) (@zUw)) (And.intro (@zUx) (@zUy))) (And.intro (And.intro (@zUz) (@zTv)) (And.intro (@zTw) (And.intro (@zTx) (@zTy))))) (And.intro (And.intro (And.intro (@zOy) (@zOz)) (And.intro (@zNv) (And.intro (@zNw) (@zNx)))) (And.intro (And.intro (@zNy) (@zNz)) (And.intro (@zMv) (And.intro (@zMw) (@yMy)))))))) (And.intro (And.intro (And.intro (And.intro (And.intro (And.intro (@yMz) (@yLv)) (And.intro (@yLw) (@yLx))) (And.intro (And.intro (@yLy) (@yLz)) (And.intro (@yKv) (And.intro (@yKw) (@yKx))))) (And.intro (And.intro (And.intro (@yKy) (@yKz)) (And.intro (@yJv) (@yJw))) (And.intro (And.intro (@yJx) (@yJy)) (And.intro (@yJz) (And.intro (@yIv) (@yIw)))))) (And.intro (And.intro (And.intro (And.intro (@yIx) (@yIy)) (And.intro (@yIz) (@yHv))) (And.intro (And.intro (@yHw) (@yHx)) (And.intro (@yHy) (And.intro (@yHz) (@yGv))))) (And.intro (And.intro (And.intro (@yGw) (@yGx)) (And.intro (@yGy) (And.intro (@yGz) (@yFv)))) (And.intro (And.intro (@yFw) (@yFx)) (And.intro (@yFy) (And.intro (@yFz) (@yEv))))))) (And.intro (And.intro (And.intro (And.intro (And.intro (@yEw) (@yEx)) (And.intro (@yEy) (@yEz))) (And.intro (And.intro (@yDv) (@yDw)) (And.intro (@yDx) (And.intro (@yDy) (@yDz))))) (And.intro (And.intro (And.intro (@yCv) (@yCw)) (And.intro (@yCx) (And.intro (@yCy) (@yCz)))) (And.intro (And.intro (@zSz) (@yBv)) (And.intro (@yBw) (And.intro (@yBx) (@yBy)))))) (And.intro (And.intro (And.intro (And.intro (@yBz) (@yAv)) (And.intro (@yAw) (@yAx))) (And.intro (And.intro (@yAy) (@yAz)) (And.intro (@zZv) (And.intro (@zZw) (@zZx))))) (And.intro (And.intro (And.intro (@zZy) (@zZz)) (And.intro (@zQy) (And.intro (@zSv) (@zSw)))) (And.intro (And.intro (@zQw) (@zSx)) (And.intro (@zRy) (And.intro (@zSy) (@zRw))))))))
theorem times (N M:Nat) (hN:N<2 ^ 128) (h:H) (wf:Wf h):(om Try.prog KK).call (.fn 82 [.agg (wd N),.agg (wd M)]) h = .ok (.agg (wd (N &&& M))) h:=by
  unfold wd;rw [times0 _ _ _ _ h wf,and_lo,and_hi hN]
theorem up (N p:Nat) (hp:p≤128) (h:H) (wf:Wf h):(om Try.prog KK).call (.fn 79 [.agg (wd N),ii p]) h = .ok (.agg (wd ((N <<< p) % 2 ^ 128))) h:=by
  unfold wd
  rcases (by omega:p<64∨(64≤p∧p<128)∨p=128) with h1|h1|rfl
  · rw [upA _ _ _ h1 h wf,upA_lo N p h1,upA_hi N p h1]
  · rw [upB _ _ _ h1 h wf,upB_hi N p h1,upB_lo N p h1.1];rfl
  · rw [show ii ((128:Nat):Int) = .int .i64 128 from rfl,upC _ _ h wf,upB_lo N 128 (by omega),upC_hi];rfl
theorem down (N p:Nat) (hN:N<2 ^ 128) (hp:p≤128) (h:H) (wf:Wf h):(om Try.prog KK).call (.fn 78 [.agg (wd N),ii p]) h = .ok (.agg (wd (N >>> p))) h:=by
  unfold wd
  rcases (by omega:p<64∨(64≤p∧p<128)∨p=128) with h1|h1|rfl
  · rw [downA _ _ _ h1 h wf,downA_lo N p h1,downA_hi N p h1]
  · rw [downB _ _ _ h1 h wf,downB_lo N p hN h1,downB_hi N p hN h1.1];rfl
  · rw [show ii ((128:Nat):Int) = .int .i64 128 from rfl,downC _ _ h wf,downC_lo N hN,downB_hi N 128 hN (by omega)];rfl
theorem wdF (N:Nat):AV.cells (.agg (wd N))=wd N:=rfl
theorem first_eq (N m:Nat) (hm:m≤128):((N <<< (128 - m)) % 2 ^ 128) >>> (128 - m)=N % 2 ^ m:=by
  apply Nat.eq_of_testBit_eq;intro i
  simp only [Nat.testBit_mod_two_pow,Nat.testBit_shiftLeft,Nat.testBit_shiftRight]
  by_cases h1:i<m
  · simp [h1,show 128 - m+i<128 by omega]
  · simp [h1,show ¬ 128 - m+i<128 by omega]
theorem first (N m:Nat) (hm:m≤128) (h:H) (wf:Wf h):(om Try.prog KK).call (.fn 80 [.agg (wd N),ii m]) h = .ok (.agg (wd (N % 2 ^ m))) h:=by
  have hs:(128:Int) - (m:Int)=((128 - m:Nat):Int):=by omega
  have c1:=fun (l:List AO) (w:Nat) (hw:w≤h.clock+l.length)=>up N (128 - m) (by omega) _ (wf.X hw)
  have c2:=fun (l:List AO) (w:Nat) (hw:w≤h.clock+l.length)=>down ((N <<< (128 - m)) % 2 ^ 128) (128 - m) (Nat.mod_lt _ (by decide)) (by omega) _ (wf.X hw)
  rw [first_eq N m hm] at c2
  unfold wd at c1 c2 ⊢
  refine ySx (zMy (fn:=Try.f80) Try.func80 rfl rfl rfl rfl rfl ?_)
  simp only [zKv]
  (repeat' (first
  | (with_reducible first|refine zJx ?_|refine zGw ?_|refine zFz ?_|refine zEv ?_|refine zFy ?_|refine zJw ?_|refine zGv ?_|refine zCz ?_|refine zDw ?_|refine zCy ?_|refine zCv ?_|refine zEx ?_|refine zDz ?_|refine zCx ?_|refine zBx ?_|refine zEz ?_|refine zEy ?_|refine zAw ?_|refine zBy ?_)
  | refine zDy ?_|refine zEw rfl ?_|refine zIv ?_|refine zJy ?_
  | ((first|refine zGx rfl rfl rfl rfl rfl fun K_ hK_=>?_|refine zGy rfl rfl rfl rfl rfl fun K_ hK_=>?_);simp only [zAz,zDx,zGz,↓reduceIte,reduceCtorEq,Nat.reduceEqDiff,Bool.not_true,Bool.not_false];refine hK_ _ ?_;clear hK_ K_)
  | refine zDv (by decide) ?_
  | ((try first|refine zKy rfl rfl rfl ?_|refine zIw rfl rfl ?_|refine zKx rfl rfl rfl ?_|refine zJz rfl rfl ?_);(refine zIx fun Q_ hQ_=>?_;simp (disch:=first|omega|(simp only [List.length_cons,List.length_nil,List.length_append];omega)) only [bb,bp,zKv,↓reduceIte,reduceCtorEq,Nat.reduceEqDiff,Nat.reduceLT,Nat.reduceLeDiff,Nat.reduceAdd,Nat.reduceMul,Nat.reduceSub,Nat.reduceBEq,Int.reduceToNat,cond_true,cond_false,eq_self,beq_self_eq_true,hs,zFx wf,zHx wf,zBv wf,zFw wf,zAy wf,zAx,tEvZ3,zIy,zIz,zHv,zHw,zAv wf];first|(refine zCw (Q:=Q_) (fun hp_=>?_) (fun hp_=>?_) <;> first|(exfalso;omega)|(refine hQ_ _ _ ?_;clear hQ_ Q_))|(refine zBw (Q:=Q_) (fun hp_=>?_) (fun hp_=>?_) <;> first|(exfalso;omega)|(refine hQ_ _ _ ?_;clear hQ_ Q_))|(refine hQ_ _ _ ?_;clear hQ_ Q_)|(refine zOv (c1 _ _ (by first|omega|(simp only [List.length_append,List.length_cons,List.length_nil];omega))) ?_;refine hQ_ _ _ ?_;clear hQ_ Q_)|(refine zOv (c2 _ _ (by first|omega|(simp only [List.length_append,List.length_cons,List.length_nil];omega))) ?_;refine hQ_ _ _ ?_;clear hQ_ Q_)))
  | (refine zHz fun K_ hK_=>?_;simp (disch:=omega) only [zFv,zAz,zHy,↓reduceIte,reduceCtorEq,Nat.reduceEqDiff,Nat.reduceLT];refine hK_ _ ?_;clear hK_ K_)))
  refine zKw _ _ rfl (retc0 (by decide) (by simp (disch:=first|omega|(simp only [List.length_cons,List.length_nil,List.length_append];omega)) only [bb,bp,zKv,↓reduceIte,reduceCtorEq,Nat.reduceEqDiff,Nat.reduceLT,Nat.reduceLeDiff,Nat.reduceAdd,Nat.reduceMul,Nat.reduceSub,Nat.reduceBEq,Int.reduceToNat,cond_true,cond_false,eq_self,beq_self_eq_true,zBv wf,tEvZ3,zIy,zIz,zHv,zHw,zAv wf];rfl)) ?_
  refine zLy rfl (by omega) ?_
  exact ⟨rfl,rfl⟩

theorem k1 :(1:Int)=((1:Nat):Int):=rfl
theorem shr_l {t x y} {a:Nat} (n:Nat) (m:Int) (e:m=(n:Int)):binE Try.prog .shr t x y (.int .u64 (a:Int)) (.int .u64 m)=some (.int .u64 ((a >>> min n 64:Nat):Int)):=by rw [e];exact ySw
theorem and_l {t x y} {a:Nat} (n:Nat) (m:Int) (e:m=(n:Int)):binE Try.prog .and t x y (.int .u64 (a:Int)) (.int .u64 m)=some (.int .u64 (((a &&& n) % 2 ^ 64:Nat):Int)):=by rw [e];exact yTy
theorem and_i {t x y} {a:Nat} : binE Try.prog .and t x y (.int .i64 (a:Int)) (.int .i64 127)=some (.int .i64 ((a &&& 127:Nat):Int)):=b_andI (b:=127) (by decide)
theorem count (x:Nat) (hx:x<2 ^ 64) (h:H) (wf:Wf h):(om Try.prog KK).call (.fn 81 [uu x]) h = .ok (ii (cnt 64 x.testBit:Nat)) h:=by
  obtain ⟨h6,hc⟩:=oc_all hx
  have e1 : ∀ x,(((x >>> min 1 64) &&& 6148914691236517205) % 2 ^ 64+(x &&& 6148914691236517205) % 2 ^ 64) % 2 ^ 64=oc1 x:=fun _=>rfl
  have e2 : ∀ x,(((x >>> min 2 64) &&& 3689348814741910323) % 2 ^ 64+(x &&& 3689348814741910323) % 2 ^ 64) % 2 ^ 64=oc2 x:=fun _=>rfl
  have e3 : ∀ x,(((x >>> min 4 64+x) % 2 ^ 64) &&& 1085102592571150095) % 2 ^ 64=oc3 x:=fun _=>rfl
  have e4 : ∀ x,(x+x >>> min 8 64) % 2 ^ 64=oc4 x:=fun _=>rfl
  have e5 : ∀ x,(x+x >>> min 16 64) % 2 ^ 64=oc5 x:=fun _=>rfl
  have e6 : ∀ x,(x+x >>> min 32 64) % 2 ^ 64=oc6 x:=fun _=>rfl
  have s1 : ∀ {t x y} {a:Nat},binE Try.prog .shr t x y (.int .u64 (a:Int)) (.int .u64 1)=some (.int .u64 ((a >>> min 1 64:Nat):Int)):=shr_l 1 1 rfl
  have s2 : ∀ {t x y} {a:Nat},binE Try.prog .shr t x y (.int .u64 (a:Int)) (.int .u64 2)=some (.int .u64 ((a >>> min 2 64:Nat):Int)):=shr_l 2 2 rfl
  have s4 : ∀ {t x y} {a:Nat},binE Try.prog .shr t x y (.int .u64 (a:Int)) (.int .u64 4)=some (.int .u64 ((a >>> min 4 64:Nat):Int)):=shr_l 4 4 rfl
  have s8 : ∀ {t x y} {a:Nat},binE Try.prog .shr t x y (.int .u64 (a:Int)) (.int .u64 8)=some (.int .u64 ((a >>> min 8 64:Nat):Int)):=shr_l 8 8 rfl
  have s16 : ∀ {t x y} {a:Nat},binE Try.prog .shr t x y (.int .u64 (a:Int)) (.int .u64 16)=some (.int .u64 ((a >>> min 16 64:Nat):Int)):=shr_l 16 16 rfl
  have s32 : ∀ {t x y} {a:Nat},binE Try.prog .shr t x y (.int .u64 (a:Int)) (.int .u64 32)=some (.int .u64 ((a >>> min 32 64:Nat):Int)):=shr_l 32 32 rfl
  have n0 : ∀ {t x y} {a:Nat},binE Try.prog .and t x y (.int .u64 (a:Int)) (.int .u64 6148914691236517205)=some (.int .u64 (((a &&& 6148914691236517205) % 2 ^ 64:Nat):Int)):=and_l 6148914691236517205 6148914691236517205 rfl
  have n1 : ∀ {t x y} {a:Nat},binE Try.prog .and t x y (.int .u64 (a:Int)) (.int .u64 3689348814741910323)=some (.int .u64 (((a &&& 3689348814741910323) % 2 ^ 64:Nat):Int)):=and_l 3689348814741910323 3689348814741910323 rfl
  have n2 : ∀ {t x y} {a:Nat},binE Try.prog .and t x y (.int .u64 (a:Int)) (.int .u64 1085102592571150095)=some (.int .u64 (((a &&& 1085102592571150095) % 2 ^ 64:Nat):Int)):=and_l 1085102592571150095 1085102592571150095 rfl
  have hcv:convE Try.prog 55 3 (.int .u64 ((oc6 (oc5 (oc4 (oc3 (oc2 (oc1 x))))):Nat):Int))=some (.int .i64 ((oc6 (oc5 (oc4 (oc3 (oc2 (oc1 x))))):Nat):Int)):=by
    rw [c_int Try.underlying55 Try.underlying3,xCx h6]
  refine ySx (zMy (fn:=Try.f81) Try.func81 rfl rfl rfl rfl rfl ?_)
  simp only [zKv]
  (repeat' (first
  | (with_reducible first|refine zJx ?_|refine zGw ?_|refine zFz ?_|refine zEv ?_|refine zFy ?_|refine zJw ?_|refine zGv ?_|refine zCz ?_|refine zDw ?_|refine zCy ?_|refine zCv ?_|refine zEx ?_|refine zDz ?_|refine zCx ?_|refine zBx ?_|refine zEz ?_|refine zEy ?_|refine zAw ?_|refine zBy ?_)
  | refine zDy ?_|refine zEw rfl ?_|refine zIv ?_|refine zJy ?_
  | ((first|refine zGx rfl rfl rfl rfl rfl fun K_ hK_=>?_|refine zGy rfl rfl rfl rfl rfl fun K_ hK_=>?_);simp only [zAz,zDx,zGz,↓reduceIte,reduceCtorEq,Nat.reduceEqDiff,Bool.not_true,Bool.not_false];refine hK_ _ ?_;clear hK_ K_)
  | refine zDv (by decide) ?_
  | ((try first|refine zKy rfl rfl rfl ?_|refine zIw rfl rfl ?_|refine zKx rfl rfl rfl ?_|refine zJz rfl rfl ?_);(refine zIx fun Q_ hQ_=>?_;simp (disch:=first|omega|(simp only [List.length_cons,List.length_nil,List.length_append];omega)) only [bb,bp,zKv,↓reduceIte,reduceCtorEq,Nat.reduceEqDiff,Nat.reduceLT,Nat.reduceLeDiff,Nat.reduceAdd,Nat.reduceMul,Nat.reduceSub,Nat.reduceBEq,Int.reduceToNat,cond_true,cond_false,eq_self,beq_self_eq_true,s1,s2,s4,s8,s16,s32,n0,n1,n2,e1,e2,e3,e4,e5,e6,hcv,and_i,ySy,hc,zFx wf,zHx wf,zBv wf,zFw wf,zAy wf,zAx,tEvZ3,zIy,zIz,zHv,zHw,zAv wf];first|(refine zCw (Q:=Q_) (fun hp_=>?_) (fun hp_=>?_) <;> first|(exfalso;omega)|(refine hQ_ _ _ ?_;clear hQ_ Q_))|(refine zBw (Q:=Q_) (fun hp_=>?_) (fun hp_=>?_) <;> first|(exfalso;omega)|(refine hQ_ _ _ ?_;clear hQ_ Q_))|(refine hQ_ _ _ ?_;clear hQ_ Q_)))
  | (refine zHz fun K_ hK_=>?_;simp (disch:=omega) only [zFv,zAz,zHy,↓reduceIte,reduceCtorEq,Nat.reduceEqDiff,Nat.reduceLT];refine hK_ _ ?_;clear hK_ K_)))
  (refine zKw _ _ rfl (ret1 (by decide)) ?_;simp only [zAz,↓reduceIte,reduceCtorEq,Nat.reduceEqDiff];refine zLy rfl (by omega) ?_)
  exact ⟨rfl,rfl⟩
end Go.Proofs.Ytmincoafjnnkpaa
end

section
namespace Go.Ev
def bN :List Bool→Nat
  | []=>0
  | b :: bs=>b.toNat+2 * bN bs
theorem xRw : ∀ (bs:List Bool) (i:Nat),(bN bs).testBit i=bs.getD i false
  | [],i=>by simp [bN]
  | b :: bs,0=>by
    show (b.toNat+2 * bN bs).testBit 0=b
    rw [Nat.testBit_zero]
    cases b <;> simp <;> omega
  | b :: bs,i+1=>by
    show (b.toNat+2 * bN bs).testBit (i+1)=bs.getD i false
    rw [Nat.testBit_succ,show (b.toNat+2 * bN bs) / 2=bN bs from by cases b <;> simp <;> omega]
    exact xRw bs i
theorem bN_lt : ∀ (bs:List Bool),bN bs<2 ^ bs.length
  | []=>by simp [bN]
  | b :: bs=>by
    have:=bN_lt bs
    show b.toNat+2 * bN bs<2 ^ (bs.length+1)
    rw [Nat.pow_succ]
    cases b <;> simp <;> omega
theorem bN_lt128 {bs:List Bool} (h:bs.length≤128):bN bs<2 ^ 128:=Nat.lt_of_lt_of_le (bN_lt bs) (Nat.pow_le_pow_right (by decide) h)
theorem bN_snoc (bs:List Bool) (b:Bool):bN (bs++[b])=bN bs ||| (b.toNat <<< bs.length):=by
  apply Nat.eq_of_testBit_eq;intro i
  rw [xRw,Nat.testBit_or,xRw,Nat.testBit_shiftLeft]
  by_cases h:i<bs.length
  · rw [List.getD_eq_getElem?_getD,List.getElem?_append_left h,← List.getD_eq_getElem?_getD]
    simp [show ¬ i ≥ bs.length by omega]
  · rw [List.getD_eq_getElem?_getD,List.getElem?_append_right (by omega)]
    have h0:bs.getD i false=false:=by rw [List.getD_eq_getElem?_getD,List.getElem?_eq_none (by omega)];rfl
    rw [h0,Bool.false_or]
    by_cases h2:i=bs.length
    · subst h2
      rw [Nat.sub_self]
      cases b <;> simp
    · rw [List.getElem?_eq_none (by simp;omega)]
      cases b
      · simp
      · simp
        intro _
        rw [show (1:Nat)=2 ^ 0 from rfl,Nat.testBit_two_pow]
        simp;omega
theorem set_lo (N i c:Nat) (hi:i<64) (hc:c<2):((N % 2 ^ 64) ||| ((c <<< min i 64) % 2 ^ 64)) % 2 ^ 64=(N ||| (c <<< i)) % 2 ^ 64:=by
  rw [Nat.min_eq_left (by omega),← Nat.or_mod_two_pow,Nat.mod_mod]
theorem set_lo_hi (N i c:Nat) (hi:i<64) (hc:c<2):(N ||| (c <<< i)) >>> 64=N >>> 64:=by
  rw [Nat.shiftRight_or_distrib]
  have e:(c <<< i) >>> 64=0:=by
    rw [Nat.shiftRight_eq_div_pow,Nat.shiftLeft_eq]
    refine Nat.div_eq_of_lt ?_
    have h1:2 ^ i≤2 ^ 63:=Nat.pow_le_pow_right (by decide) (by omega)
    have h2:c * 2 ^ i≤1 * 2 ^ i:=Nat.mul_le_mul_right _ (by omega)
    omega
  rw [e,Nat.or_zero]
theorem set_hi (N i c:Nat) (hi:64≤i∧i<128) (hN:N<2 ^ 128) (hc:c<2):((N >>> 64) ||| ((c <<< min (i - 64) 64) % 2 ^ 64)) % 2 ^ 64=(N ||| (c <<< i)) >>> 64:=by
  rw [Nat.min_eq_left (by omega),Nat.shiftRight_or_distrib]
  have e:(c <<< i) >>> 64=c <<< (i - 64):=by
    rw [show i=(i - 64)+64 by omega,Nat.shiftLeft_add,Nat.add_sub_cancel,Nat.shiftLeft_shiftRight]
  have e2:c <<< (i - 64)<2 ^ 64:=by
    rw [Nat.shiftLeft_eq]
    have h1:2 ^ (i - 64)≤2 ^ 63:=Nat.pow_le_pow_right (by decide) (by omega)
    have h2:c * 2 ^ (i - 64)≤1 * 2 ^ (i - 64):=Nat.mul_le_mul_right _ (by omega)
    omega
  rw [e,Nat.mod_eq_of_lt e2,Nat.mod_eq_of_lt (Nat.or_lt_two_pow (wd_lt hN) e2)]
theorem set_hi_lo (N i c:Nat) (hi:64≤i) (hc:c<2):(N ||| (c <<< i)) % 2 ^ 64=N % 2 ^ 64:=by
  rw [Nat.or_mod_two_pow]
  have e:(c <<< i) % 2 ^ 64=0:=by
    rw [Nat.shiftLeft_eq,show i=(i - 64)+64 by omega,Nat.pow_add,← Nat.mul_assoc]
    exact Nat.mul_mod_left _ _
  rw [e,Nat.or_zero]
theorem bit_lo (N i:Nat) (hi:i<64):(((N % 2 ^ 64) >>> min i 64) &&& 1) % 2 ^ 64=(N.testBit i).toNat:=by
  rw [Nat.min_eq_left (by omega),Nat.and_one_is_mod,Nat.mod_eq_of_lt (by omega:_ % 2<2 ^ 64)]
  have:(N % 2 ^ 64).testBit i=N.testBit i:=by rw [Nat.testBit_mod_two_pow];simp [hi]
  rw [← this,Nat.testBit_eq_decide_div_mod_eq,Nat.shiftRight_eq_div_pow]
  rcases Nat.mod_two_eq_zero_or_one (N % 2 ^ 64 / 2 ^ i) with h|h <;> rw [h] <;> rfl
theorem bit_hi (N i:Nat) (hi:64≤i∧i<128):(((N >>> 64) >>> min (i - 64) 64) &&& 1) % 2 ^ 64=(N.testBit i).toNat:=by
  rw [Nat.min_eq_left (by omega),Nat.and_one_is_mod,Nat.mod_eq_of_lt (by omega:_ % 2<2 ^ 64),← Nat.shiftRight_add,show 64+(i - 64)=i by omega]
  rw [Nat.testBit_eq_decide_div_mod_eq,Nat.shiftRight_eq_div_pow]
  rcases Nat.mod_two_eq_zero_or_one (N / 2 ^ i) with h|h <;> rw [h] <;> rfl
theorem cnt_wd (N:Nat):cnt 64 (N % 2 ^ 64).testBit+cnt 64 (N >>> 64).testBit=cnt 128 N.testBit:=by
  rw [show 128=64+64 from rfl,xAy]
  congr 1
  · exact xHx fun i hi=>by rw [Nat.testBit_mod_two_pow];simp [hi]
def xall (Ns:List Nat):Nat:=Ns.foldl (· ^^^ ·) 0
theorem xall_snoc (Ns:List Nat) (N:Nat):xall (Ns++[N])=xall Ns ^^^ N:=by unfold xall;rw [List.foldl_append];rfl
theorem xall_lt {Ns:List Nat} (h : ∀ N ∈ Ns,N<2 ^ 128):xall Ns<2 ^ 128:=by
  unfold xall
  have : ∀ (Ns:List Nat) (a:Nat),a<2 ^ 128→(∀ N ∈ Ns,N<2 ^ 128)→Ns.foldl (· ^^^ ·) a<2 ^ 128:=by
    intro Ns
    induction Ns with
    | nil=>intro a ha _;exact ha
    | cons N Ns ih=>intro a ha hN;exact ih _ (Nat.xor_lt_two_pow ha (hN N (by simp))) (fun M hM=>hN M (by simp [hM]))
  exact this Ns 0 (by decide) h
theorem xall2 (N M:Nat):xall [N,M]=N ^^^ M:=by show (0 ^^^ N) ^^^ M=_;rw [Nat.zero_xor]
theorem xall3 (N M K:Nat):xall [N,M,K]=N ^^^ M ^^^ K:=by show ((0 ^^^ N) ^^^ M) ^^^ K=_;rw [Nat.zero_xor]
theorem flat_wd_get {Ns:List Nat} {i:Nat} (hi:i<Ns.length):((Ns.flatMap wd).drop (i * 2)).take 2=wd Ns[i]:=by
  induction Ns generalizing i with
  | nil=>exact absurd hi (Nat.not_lt_zero _)
  | cons N Ns ih=>
    cases i with
    | zero=>rfl
    | succ i=>
      rw [List.flatMap_cons,show (i+1) * 2=2+i * 2 by omega,← List.drop_drop,show (wd N++Ns.flatMap wd).drop 2=Ns.flatMap wd from rfl]
      exact ih (by simpa using hi)
end Go.Ev
end

section
namespace Go.Ev
section
variable {P:Program}
theorem index_agg {t e i n:Nat} {cs:List AV} {v:AV} (hu:P.underlying t=some (.array n e)) (hz:sizeE P e=some 1) (ha:isAggB P e=some false) (hi:i<n) (hv:cs[i]? = some v):indexE P t (.agg cs) (.int .i64 (i:Int))=some v:=by
  unfold indexE
  rw [yXv]
  dsimp only
  rw [hu]
  dsimp only
  rw [hz]
  dsimp only
  rw [Nat.ble_eq_true_of_le (show Nat.succ i≤n from hi)]
  show partE P e cs (i * 1)=_
  unfold partE
  rw [ha,Nat.mul_one]
  exact hv
end
end Go.Ev
end

section
namespace Go.Proofs.Ytmincoafjnnkpaa
open Go.Ev
set_option maxRecDepth 100000
set_option linter.unusedSimpArgs false
set_option linter.unusedVariables false
set_option maxHeartbeats 2000000
theorem tEvZ4 :type_of% (And.intro (And.intro (And.intro (And.intro (And.intro (And.intro (And.intro (@yQx) (@yQy)) (And.intro (@yQz) (@yPv))) (And.intro (And.intro (@yPw) (@yPx)) (And.intro (@ia_2) (And.intro (@ia_3) (@ia_4))))) (And.intro (And.intro (And.intro (@ia_5) (@yPy)) (And.intro (@yPz) (@yOv))) (And.intro (And.intro (@yOw) (@yOx)) (And.intro (@yOy) (And.intro (@zRv) (@yOz)))))) (And.intro (And.intro (And.intro (And.intro (@yNv) (@yNw)) (And.intro (@yNx) (@yNy))) (And.intro (And.intro (@yNz) (@yMv)) (And.intro (@yMw) (And.intro (@yMx) (@sz_2))))) (And.intro (And.intro (And.intro (@sz_3) (@sz_4)) (And.intro (@sz_5) (And.intro (@zQv) (@zYw)))) (And.intro (And.intro (@zYx) (@zYy)) (And.intro (@zYz) (And.intro (@zXv) (@zRx))))))) (And.intro (And.intro (And.intro (And.intro (And.intro (@zXw) (@zXx)) (And.intro (@zXy) (@zQx))) (And.intro (And.intro (@zXz) (@zWv)) (And.intro (@zWw) (And.intro (@zWx) (@zWy))))) (And.intro (And.intro (And.intro (@ze_2) (@ze_3)) (And.intro (@ze_4) (And.intro (@ze_5) (@zWz)))) (And.intro (And.intro (@zVv) (@zVw)) (And.intro (@zVx) (And.intro (@zVy) (@zVz)))))) (And.intro (And.intro (And.intro (And.intro (@zUv) (@zUw)) (And.intro (@zUx) (@zUy))) (And.intro (And.intro (@zUz) (@zTv)) (And.intro (@zTw) (And.intro (@zTx) (@zTy))))) (And.intro (And.intro (And.intro (@zOy) (@zOz)) (And.intro (@zNv) (And.intro (@zNw) (@zNx)))) (And.intro (And.intro (@zNy) (@zNz)) (And.intro (@zMv) (And.intro (@zMw) (@yMy)))))))) (And.intro (And.intro (And.intro (And.intro (And.intro (And.intro (@yMz) (@yLv)) (And.intro (@yLw) (@yLx))) (And.intro (And.intro (@yLy) (@yLz)) (And.intro (@yKv) (And.intro (@yKw) (@yKx))))) (And.intro (And.intro (And.intro (@yKy) (@yKz)) (And.intro (@yJv) (@yJw))) (And.intro (And.intro (@yJx) (@yJy)) (And.intro (@yJz) (And.intro (@yIv) (@yIw)))))) (And.intro (And.intro (And.intro (And.intro (@yIx) (@yIy)) (And.intro (@yIz) (@yHv))) (And.intro (And.intro (@yHw) (@yHx)) (And.intro (@yHy) (And.intro (@yHz) (@yGv))))) (And.intro (And.intro (And.intro (@yGw) (@yGx)) (And.intro (@yGy) (And.intro (@yGz) (@yFv)))) (And.intro (And.intro (@yFw) (@yFx)) (And.intro (@yFy) (And.intro (@yFz) (@yEv))))))) (And.intro (And.intro (And.intro (And.intro (And.intro (@yEw) (@yEx)) (And.intro (@yEy) (@yEz))) (And.intro (And.intro (@yDv) (@yDw)) (And.intro (@yDx) (And.intro (@yDy) (@yDz))))) (And.intro (And.intro (And.intro (@yCv) (@yCw)) (And.intro (@yCx) (And.intro (@yCy) (@yCz)))) (And.intro (And.intro (@zSz) (@yBv)) (And.intro (@yBw) (And.intro (@yBx) (@yBy)))))) (And.intro (And.intro (And.intro (And.intro (@yBz) (@yAv)) (And.intro (@yAw) (@yAx))) (And.intro (And.intro (@yAy) (@yAz)) (And.intro (@zZv) (And.intro (@zZw) (@zZx))))) (And.intro (And.intro (And.intro (@zZy) (@zZz)) (And.intro (@zQy) (And.intro (@zSv) (@zSw)))) (And.intro (And.intro (@zQw) (@zSx)) (And.intro (@zRy) (And.intro (@zSy) (@zRw))))))))):=And.intro (And.intro (And.intro (And.intro (And.intro (And.intro (And.intro (@yQx) (@yQy)) (And.intro (@yQz) (@yPv))) (And.intro (And.intro (@yPw) (@yPx)) (And.intro (@ia_2) (And.intro (@ia_3) (@ia_4))))) (And.intro (And.intro (And.intro (@ia_5) (@yPy)) (And.intro (@yPz) (@yOv))) (And.intro (And.intro (@yOw) (@yOx)) (And.intro (@yOy) (And.intro (@zRv) (@yOz)))))) (And.intro (And.intro (And.intro (And.intro (@yNv) (@yNw)) (And.intro (@yNx) (@yNy))) (And.intro (And.intro (@yNz) (@yMv)) (And.intro (@yMw) (And.intro (@yMx) (@sz_2))))) (And.intro (And.intro (And.intro (@sz_3) (@sz_4)) (And.intro (@sz_5) (And.intro (@zQv) (@zYw)))) (And.intro (And.intro (@zYx) (@zYy)) (And.intro (@zYz) (And.intro (@zXv) (@zRx))))))) (And.intro (And.intro (And.intro (And.intro (And.intro (@zXw) (@zXx)) (And.intro (@zXy) (@zQx))) (And.intro (And.intro (@zXz) (@zWv)) (And.intro (@zWw) (And.intro (@zWx) (@zWy))))) (And.intro (And.intro (And.intro (@ze_2) (@ze_3)) (And.intro (@ze_4) (And.intro (@ze_5) (@zWz)))) (And.intro (And.intro (@zVv) (@zVw)) (And.intro (@zVx) (And.intro (@zVy) (@zVz)))))) (And.intro (And.intro (And.intro (And.intro (@zUv) (@zUw)) (And.intro (@zUx) (@zUy))) (And.intro (And.intro (@zUz) (@zTv)) (And.intro (@zTw) (And.intro (@zTx) (@zTy))))) (And.intro (And.intro (And.intro (@zOy) (@zOz)) (And.intro (@zNv) (And.intro (@zNw) (@zNx)))) (And.intro (And.intro (@zNy) (@zNz)) (And.intro (@zMv) (And.intro (@zMw) (@yMy)))))))) (And.intro (And.intro (And.intro (And.intro (And.intro (And.intro (@yMz) (@yLv)) (And.intro (@yLw) (@yLx))) (And.intro (And.intro (@yLy) (@yLz)) (And.intro (@yKv) (And.intro (@yKw) (@yKx))))) (And.intro (And.intro (And.intro (@yKy) (@yKz)) (And.intro (@yJv) (@yJw))) (And.intro (And.intro (@yJx) (@yJy)) (And.intro (@yJz) (And.intro (@yIv) (@yIw)))))) (And.intro (And.intro (And.intro (And.intro (@yIx) (@yIy)) (And.intro (@yIz) (@yHv))) (And.intro (And.intro (@yHw) (@yHx)) (And.intro (@yHy) (And.intro (@yHz) (@yGv))))) (And.intro (And.intro (And.intro (@yGw) (@yGx)) (And.intro (@yGy) (And.intro (@yGz) (@yFv)))) (And.intro (And.intro (@yFw) (@yFx)) (And.intro (@yFy) (And.intro (@yFz) (@yEv))))))) (And.intro (And.intro (And.intro (And.intro (And.intro (@yEw) (@yEx)) (And.intro (@yEy) (@yEz))) (And.intro (And.intro (@yDv) (@yDw)) (And.intro (@yDx) (And.intro (@yDy) (@yDz))))) (And.intro (And.intro (And.intro (@yCv) (@yCw)) (And.intro (@yCx) (And.intro (@yCy) (@yCz)))) (And.intro (And.intro (@zSz) (@yBv)) (And.intro (@yBw) (And.intro (@yBx) (@yBy)))))) (And.intro (And.intro (And.intro (And.intro (@yBz) (@yAv)) (And.intro (@yAw) (@yAx))) (And.intro (And.intro (@yAy) (@yAz)) (And.intro (@zZv) (And.intro (@zZw) (@zZx))))) (And.intro (And.intro (And.intro (@zZy) (@zZz)) (And.intro (@zQy) (And.intro (@zSv) (@zSw)))) (And.intro (And.intro (@zQw) (@zSx)) (And.intro (@zRy) (And.intro (@zSy) (@zRw))))))))
theorem c_uu (n:Nat) (h:n<2 ^ 63):convE Try.prog 55 3 (uu n)=some (ii (n:Int)):=by
  rw [c_int Try.underlying55 Try.underlying3,xCx h]
theorem c_ui (n:Nat) (h:n<2 ^ 63):convE Try.prog 3 55 (ii (n:Int))=some (uu n):=by
  rw [c_int Try.underlying3 Try.underlying55,xIy,Nat.mod_eq_of_lt (by omega)]
theorem at_ (N i:Nat) (hi:i<128) (h:H) (wf:Wf h):(om Try.prog KK).call (.fn 75 [.agg (wd N),ii i]) h = .ok (ii ((N.testBit i).toNat:Nat)) h:=by
  have n64:(64:Int)≠0:=by decide
  have a1 : ∀ {t x y} {a:Nat},binE Try.prog .and t x y (.int .u64 (a:Int)) (.int .u64 1)=some (.int .u64 (((a &&& 1) % 2 ^ 64:Nat):Int)):=and_l 1 1 rfl
  have hb:(N.testBit i).toNat<2 ^ 63:=by cases N.testBit i <;> decide
  have hc:=c_uu _ hb
  refine ySx (zMy (fn:=Try.f75) Try.func75 rfl rfl rfl rfl rfl ?_)
  simp only [zKv]
  unfold wd
  by_cases h1:i<64
  · have hd:((i:Int)).tdiv 64=0:=by rw [div64,Nat.div_eq_of_lt h1];rfl
    have hm:((i:Int)).tmod 64=(i:Int):=by rw [mod64,Nat.mod_eq_of_lt h1]
    have e:=bit_lo N i h1
    (repeat' (first
  | (with_reducible first|refine zJx ?_|refine zGw ?_|refine zFz ?_|refine zEv ?_|refine zFy ?_|refine zJw ?_|refine zGv ?_|refine zCz ?_|refine zDw ?_|refine zCy ?_|refine zCv ?_|refine zEx ?_|refine zDz ?_|refine zCx ?_|refine zBx ?_|refine zEz ?_|refine zEy ?_|refine zAw ?_|refine zBy ?_)
  | refine zDy ?_|refine zEw rfl ?_|refine zIv ?_|refine zJy ?_
  | ((first|refine zGx rfl rfl rfl rfl rfl fun K_ hK_=>?_|refine zGy rfl rfl rfl rfl rfl fun K_ hK_=>?_);simp only [zAz,zDx,zGz,↓reduceIte,reduceCtorEq,Nat.reduceEqDiff,Bool.not_true,Bool.not_false];refine hK_ _ ?_;clear hK_ K_)
  | refine zDv (by decide) ?_
  | ((try first|refine zKy rfl rfl rfl ?_|refine zIw rfl rfl ?_|refine zKx rfl rfl rfl ?_|refine zJz rfl rfl ?_);(refine zIx fun Q_ hQ_=>?_;simp (disch:=first|omega|(simp only [List.length_cons,List.length_nil,List.length_append];omega)) only [bb,bp,zKv,↓reduceIte,reduceCtorEq,Nat.reduceEqDiff,Nat.reduceLT,Nat.reduceLeDiff,Nat.reduceAdd,Nat.reduceMul,Nat.reduceSub,Nat.reduceBEq,Int.reduceToNat,cond_true,cond_false,eq_self,beq_self_eq_true,b_quo n64,wAy n64,hd,hm,ix0,ix1,a1,e,hc,yTy,yXy,yTw,ySy,yTz,ySv,ySw,zFx wf,zHx wf,zBv wf,zFw wf,zAy wf,zAx,tEvZ4,zIy,zIz,zHv,zHw,zAv wf];first|(refine zCw (Q:=Q_) (fun hp_=>?_) (fun hp_=>?_) <;> first|(exfalso;omega)|(refine hQ_ _ _ ?_;clear hQ_ Q_))|(refine zBw (Q:=Q_) (fun hp_=>?_) (fun hp_=>?_) <;> first|(exfalso;omega)|(refine hQ_ _ _ ?_;clear hQ_ Q_))|(refine hQ_ _ _ ?_;clear hQ_ Q_)))
  | (refine zHz fun K_ hK_=>?_;simp (disch:=omega) only [zFv,zAz,zHy,↓reduceIte,reduceCtorEq,Nat.reduceEqDiff,Nat.reduceLT];refine hK_ _ ?_;clear hK_ K_)))
    (refine zKw _ _ rfl (ret1 (by decide)) ?_;simp only [zAz,↓reduceIte,reduceCtorEq,Nat.reduceEqDiff];refine zLy rfl (by omega) ?_)
    exact ⟨rfl,rfl⟩
  · have hd:((i:Int)).tdiv 64=1:=by rw [div64,show i / 64=1 by omega];rfl
    have hm:((i:Int)).tmod 64=((i - 64:Nat):Int):=by rw [mod64,show i % 64=i - 64 by omega]
    have e:=bit_hi N i ⟨by omega,hi⟩
    (repeat' (first
  | (with_reducible first|refine zJx ?_|refine zGw ?_|refine zFz ?_|refine zEv ?_|refine zFy ?_|refine zJw ?_|refine zGv ?_|refine zCz ?_|refine zDw ?_|refine zCy ?_|refine zCv ?_|refine zEx ?_|refine zDz ?_|refine zCx ?_|refine zBx ?_|refine zEz ?_|refine zEy ?_|refine zAw ?_|refine zBy ?_)
  | refine zDy ?_|refine zEw rfl ?_|refine zIv ?_|refine zJy ?_
  | ((first|refine zGx rfl rfl rfl rfl rfl fun K_ hK_=>?_|refine zGy rfl rfl rfl rfl rfl fun K_ hK_=>?_);simp only [zAz,zDx,zGz,↓reduceIte,reduceCtorEq,Nat.reduceEqDiff,Bool.not_true,Bool.not_false];refine hK_ _ ?_;clear hK_ K_)
  | refine zDv (by decide) ?_
  | ((try first|refine zKy rfl rfl rfl ?_|refine zIw rfl rfl ?_|refine zKx rfl rfl rfl ?_|refine zJz rfl rfl ?_);(refine zIx fun Q_ hQ_=>?_;simp (disch:=first|omega|(simp only [List.length_cons,List.length_nil,List.length_append];omega)) only [bb,bp,zKv,↓reduceIte,reduceCtorEq,Nat.reduceEqDiff,Nat.reduceLT,Nat.reduceLeDiff,Nat.reduceAdd,Nat.reduceMul,Nat.reduceSub,Nat.reduceBEq,Int.reduceToNat,cond_true,cond_false,eq_self,beq_self_eq_true,b_quo n64,wAy n64,hd,hm,ix0,ix1,a1,e,hc,yTy,yXy,yTw,ySy,yTz,ySv,ySw,zFx wf,zHx wf,zBv wf,zFw wf,zAy wf,zAx,tEvZ4,zIy,zIz,zHv,zHw,zAv wf];first|(refine zCw (Q:=Q_) (fun hp_=>?_) (fun hp_=>?_) <;> first|(exfalso;omega)|(refine hQ_ _ _ ?_;clear hQ_ Q_))|(refine zBw (Q:=Q_) (fun hp_=>?_) (fun hp_=>?_) <;> first|(exfalso;omega)|(refine hQ_ _ _ ?_;clear hQ_ Q_))|(refine hQ_ _ _ ?_;clear hQ_ Q_)))
  | (refine zHz fun K_ hK_=>?_;simp (disch:=omega) only [zFv,zAz,zHy,↓reduceIte,reduceCtorEq,Nat.reduceEqDiff,Nat.reduceLT];refine hK_ _ ?_;clear hK_ K_)))
    (refine zKw _ _ rfl (ret1 (by decide)) ?_;simp only [zAz,↓reduceIte,reduceCtorEq,Nat.reduceEqDiff];refine zLy rfl (by omega) ?_)
    exact ⟨rfl,rfl⟩

theorem ones (N:Nat) (hN:N<2 ^ 128) (h:H) (wf:Wf h):(om Try.prog KK).call (.fn 66 [.agg (wd N)]) h = .ok (ii (cnt 128 N.testBit:Nat)) h:=by
  have c0:=fun (l:List AO) (w:Nat) (hw:w≤h.clock+l.length)=>count (N % 2 ^ 64) (Nat.mod_lt _ (by decide)) _ (wf.X hw)
  have c1:=fun (l:List AO) (w:Nat) (hw:w≤h.clock+l.length)=>count (N >>> 64) (wd_lt hN) _ (wf.X hw)
  have hs:=cnt_wd N
  have i0:indexE Try.prog 57 (.agg [uu (N % 2 ^ 64),uu (N >>> 64)]) (.int .i64 0)=some (uu (N % 2 ^ 64)):=index_agg (i:=0) un_57 zRx zRv (by decide) rfl
  have i1:indexE Try.prog 57 (.agg [uu (N % 2 ^ 64),uu (N >>> 64)]) (.int .i64 1)=some (uu (N >>> 64)):=index_agg (i:=1) un_57 zRx zRv (by decide) rfl
  have l0:=xFw (N % 2 ^ 64).testBit 64
  have l1:=xFw (N >>> 64).testBit 64
  refine ySx (zMy (fn:=Try.f66) Try.func66 rfl rfl rfl rfl rfl ?_)
  simp only [zKv]
  unfold wd
  generalize cnt 64 (N % 2 ^ 64).testBit=C0 at *
  generalize cnt 64 (N >>> 64).testBit=C1 at *
  (repeat' (first
  | (with_reducible first|refine zJx ?_|refine zGw ?_|refine zFz ?_|refine zEv ?_|refine zFy ?_|refine zJw ?_|refine zGv ?_|refine zCz ?_|refine zDw ?_|refine zCy ?_|refine zCv ?_|refine zEx ?_|refine zDz ?_|refine zCx ?_|refine zBx ?_|refine zEz ?_|refine zEy ?_|refine zAw ?_|refine zBy ?_)
  | refine zDy ?_|refine zEw rfl ?_|refine zIv ?_|refine zJy ?_
  | ((first|refine zGx rfl rfl rfl rfl rfl fun K_ hK_=>?_|refine zGy rfl rfl rfl rfl rfl fun K_ hK_=>?_);simp only [zAz,zDx,zGz,↓reduceIte,reduceCtorEq,Nat.reduceEqDiff,Bool.not_true,Bool.not_false];refine hK_ _ ?_;clear hK_ K_)
  | refine zDv (by decide) ?_
  | ((try first|refine zKy rfl rfl rfl ?_|refine zIw rfl rfl ?_|refine zKx rfl rfl rfl ?_|refine zJz rfl rfl ?_);(refine zIx fun Q_ hQ_=>?_;simp (disch:=first|omega|(simp only [List.length_cons,List.length_nil,List.length_append];omega)) only [bb,bp,zKv,↓reduceIte,reduceCtorEq,Nat.reduceEqDiff,Nat.reduceLT,Nat.reduceLeDiff,Nat.reduceAdd,Nat.reduceMul,Nat.reduceSub,Nat.reduceBEq,Int.reduceToNat,cond_true,cond_false,eq_self,beq_self_eq_true,zFx wf,zHx wf,zBv wf,zFw wf,zAy wf,zAx,tEvZ4,zIy,zIz,zHv,zHw,zAv wf];first|(refine zCw (Q:=Q_) (fun hp_=>?_) (fun hp_=>?_) <;> first|(exfalso;omega)|(refine hQ_ _ _ ?_;clear hQ_ Q_))|(refine zBw (Q:=Q_) (fun hp_=>?_) (fun hp_=>?_) <;> first|(exfalso;omega)|(refine hQ_ _ _ ?_;clear hQ_ Q_))|(refine hQ_ _ _ ?_;clear hQ_ Q_)))
  | (refine zHz fun K_ hK_=>?_;simp (disch:=omega) only [zFv,zAz,zHy,↓reduceIte,reduceCtorEq,Nat.reduceEqDiff,Nat.reduceLT];refine hK_ _ ?_;clear hK_ K_)))
  refine zOw (fun (k:Nat) f d' h'=>k≤2∧f 3=ii ((if 1<k then C0+C1 else if 0<k then C0 else 0:Nat):Int)∧f 6 = .agg [uu (N % 2 ^ 64),uu (N >>> 64)]∧f 7=ii (k:Int)∧d'=[] ∧
    ∃ w,h.clock≤w∧w≤h.clock+1∧h'=X h [.cells (zBz [uu (N % 2 ^ 64),uu (N >>> 64)]) 57] w) (fun k=>2 - k) ?_ 3 0 (by omega) ?_
  · rintro k f d' h' ⟨hk,g3,g6,g7,rfl,w,hw,hw2,rfl⟩
    rcases (by omega:k=0∨k=1∨k=2) with rfl|rfl|rfl
    · have g7:f 7 = .int .i64 0:=g7
      have g3:f 3 = .int .i64 0:=g3
      (repeat' (first
  | (with_reducible first|refine zJx ?_|refine zGw ?_|refine zFz ?_|refine zEv ?_|refine zFy ?_|refine zJw ?_|refine zGv ?_|refine zCz ?_|refine zDw ?_|refine zCy ?_|refine zCv ?_|refine zEx ?_|refine zDz ?_|refine zCx ?_|refine zBx ?_|refine zEz ?_|refine zEy ?_|refine zAw ?_|refine zBy ?_)
  | refine zDy ?_|refine zEw rfl ?_|refine zIv ?_|refine zJy ?_
  | ((first|refine zGx rfl rfl rfl rfl rfl fun K_ hK_=>?_|refine zGy rfl rfl rfl rfl rfl fun K_ hK_=>?_);simp only [zAz,zDx,zGz,↓reduceIte,reduceCtorEq,Nat.reduceEqDiff,Bool.not_true,Bool.not_false];refine hK_ _ ?_;clear hK_ K_)
  | refine zDv (by decide) ?_
  | ((try first|refine zKy rfl rfl rfl ?_|refine zIw rfl rfl ?_|refine zKx rfl rfl rfl ?_|refine zJz rfl rfl ?_);(refine zIx fun Q_ hQ_=>?_;simp (disch:=first|omega|(simp only [List.length_cons,List.length_nil,List.length_append];omega)) only [bb,bp,zKv,↓reduceIte,reduceCtorEq,Nat.reduceEqDiff,Nat.reduceLT,Nat.reduceLeDiff,Nat.reduceAdd,Nat.reduceMul,Nat.reduceSub,Nat.reduceBEq,Int.reduceToNat,cond_true,cond_false,eq_self,beq_self_eq_true,g3,g6,g7,i0,zFx wf,zHx wf,zBv wf,zFw wf,zAy wf,zAx,tEvZ4,zIy,zIz,zHv,zHw,zAv wf];first|(refine zCw (Q:=Q_) (fun hp_=>?_) (fun hp_=>?_) <;> first|(exfalso;omega)|(refine hQ_ _ _ ?_;clear hQ_ Q_))|(refine zBw (Q:=Q_) (fun hp_=>?_) (fun hp_=>?_) <;> first|(exfalso;omega)|(refine hQ_ _ _ ?_;clear hQ_ Q_))|(refine hQ_ _ _ ?_;clear hQ_ Q_)|(refine zOv (c0 _ _ (by first|omega|(simp only [List.length_append,List.length_cons,List.length_nil];omega))) ?_;refine hQ_ _ _ ?_;clear hQ_ Q_)))
  | (refine zHz fun K_ hK_=>?_;simp (disch:=omega) only [zFv,zAz,zHy,↓reduceIte,reduceCtorEq,Nat.reduceEqDiff,Nat.reduceLT];refine hK_ _ ?_;clear hK_ K_)))
      exact zJv 1 (by decide) ⟨by omega,by simp only [zAz,↓reduceIte,reduceCtorEq,Nat.reduceEqDiff];rw [Int.zero_add];rfl,by simp only [zAz,↓reduceIte,reduceCtorEq,Nat.reduceEqDiff];exact g6,by simp only [zAz,↓reduceIte,reduceCtorEq,Nat.reduceEqDiff];rfl,rfl,_,by omega,by omega,rfl⟩
    · have g7:f 7 = .int .i64 1:=g7
      have g3:f 3=ii (C0:Int):=g3
      (repeat' (first
  | (with_reducible first|refine zJx ?_|refine zGw ?_|refine zFz ?_|refine zEv ?_|refine zFy ?_|refine zJw ?_|refine zGv ?_|refine zCz ?_|refine zDw ?_|refine zCy ?_|refine zCv ?_|refine zEx ?_|refine zDz ?_|refine zCx ?_|refine zBx ?_|refine zEz ?_|refine zEy ?_|refine zAw ?_|refine zBy ?_)
  | refine zDy ?_|refine zEw rfl ?_|refine zIv ?_|refine zJy ?_
  | ((first|refine zGx rfl rfl rfl rfl rfl fun K_ hK_=>?_|refine zGy rfl rfl rfl rfl rfl fun K_ hK_=>?_);simp only [zAz,zDx,zGz,↓reduceIte,reduceCtorEq,Nat.reduceEqDiff,Bool.not_true,Bool.not_false];refine hK_ _ ?_;clear hK_ K_)
  | refine zDv (by decide) ?_
  | ((try first|refine zKy rfl rfl rfl ?_|refine zIw rfl rfl ?_|refine zKx rfl rfl rfl ?_|refine zJz rfl rfl ?_);(refine zIx fun Q_ hQ_=>?_;simp (disch:=first|omega|(simp only [List.length_cons,List.length_nil,List.length_append];omega)) only [bb,bp,zKv,↓reduceIte,reduceCtorEq,Nat.reduceEqDiff,Nat.reduceLT,Nat.reduceLeDiff,Nat.reduceAdd,Nat.reduceMul,Nat.reduceSub,Nat.reduceBEq,Int.reduceToNat,cond_true,cond_false,eq_self,beq_self_eq_true,g3,g6,g7,i1,zFx wf,zHx wf,zBv wf,zFw wf,zAy wf,zAx,tEvZ4,zIy,zIz,zHv,zHw,zAv wf];first|(refine zCw (Q:=Q_) (fun hp_=>?_) (fun hp_=>?_) <;> first|(exfalso;omega)|(refine hQ_ _ _ ?_;clear hQ_ Q_))|(refine zBw (Q:=Q_) (fun hp_=>?_) (fun hp_=>?_) <;> first|(exfalso;omega)|(refine hQ_ _ _ ?_;clear hQ_ Q_))|(refine hQ_ _ _ ?_;clear hQ_ Q_)|(refine zOv (c1 _ _ (by first|omega|(simp only [List.length_append,List.length_cons,List.length_nil];omega))) ?_;refine hQ_ _ _ ?_;clear hQ_ Q_)))
  | (refine zHz fun K_ hK_=>?_;simp (disch:=omega) only [zFv,zAz,zHy,↓reduceIte,reduceCtorEq,Nat.reduceEqDiff,Nat.reduceLT];refine hK_ _ ?_;clear hK_ K_)))
      exact zJv 2 (by decide) ⟨by omega,by simp only [zAz,↓reduceIte,reduceCtorEq,Nat.reduceEqDiff];rw [← Int.natCast_add];rfl,by simp only [zAz,↓reduceIte,reduceCtorEq,Nat.reduceEqDiff];exact g6,by simp only [zAz,↓reduceIte,reduceCtorEq,Nat.reduceEqDiff];rfl,rfl,_,by omega,by omega,rfl⟩
    · have g7:f 7 = .int .i64 2:=g7
      have g3:f 3=ii ((C0+C1:Nat):Int):=g3
      (repeat' (first
  | (with_reducible first|refine zJx ?_|refine zGw ?_|refine zFz ?_|refine zEv ?_|refine zFy ?_|refine zJw ?_|refine zGv ?_|refine zCz ?_|refine zDw ?_|refine zCy ?_|refine zCv ?_|refine zEx ?_|refine zDz ?_|refine zCx ?_|refine zBx ?_|refine zEz ?_|refine zEy ?_|refine zAw ?_|refine zBy ?_)
  | refine zDy ?_|refine zEw rfl ?_|refine zIv ?_|refine zJy ?_
  | ((first|refine zGx rfl rfl rfl rfl rfl fun K_ hK_=>?_|refine zGy rfl rfl rfl rfl rfl fun K_ hK_=>?_);simp only [zAz,zDx,zGz,↓reduceIte,reduceCtorEq,Nat.reduceEqDiff,Bool.not_true,Bool.not_false];refine hK_ _ ?_;clear hK_ K_)
  | refine zDv (by decide) ?_
  | ((try first|refine zKy rfl rfl rfl ?_|refine zIw rfl rfl ?_|refine zKx rfl rfl rfl ?_|refine zJz rfl rfl ?_);(refine zIx fun Q_ hQ_=>?_;simp (disch:=first|omega|(simp only [List.length_cons,List.length_nil,List.length_append];omega)) only [bb,bp,zKv,↓reduceIte,reduceCtorEq,Nat.reduceEqDiff,Nat.reduceLT,Nat.reduceLeDiff,Nat.reduceAdd,Nat.reduceMul,Nat.reduceSub,Nat.reduceBEq,Int.reduceToNat,cond_true,cond_false,eq_self,beq_self_eq_true,g3,g6,g7,zFx wf,zHx wf,zBv wf,zFw wf,zAy wf,zAx,tEvZ4,zIy,zIz,zHv,zHw,zAv wf];first|(refine zCw (Q:=Q_) (fun hp_=>?_) (fun hp_=>?_) <;> first|(exfalso;omega)|(refine hQ_ _ _ ?_;clear hQ_ Q_))|(refine zBw (Q:=Q_) (fun hp_=>?_) (fun hp_=>?_) <;> first|(exfalso;omega)|(refine hQ_ _ _ ?_;clear hQ_ Q_))|(refine hQ_ _ _ ?_;clear hQ_ Q_)))
  | (refine zHz fun K_ hK_=>?_;simp (disch:=omega) only [zFv,zAz,zHy,↓reduceIte,reduceCtorEq,Nat.reduceEqDiff,Nat.reduceLT];refine hK_ _ ?_;clear hK_ K_)))
      (refine zKw _ _ rfl (ret1 (by decide)) ?_;simp only [zAz,↓reduceIte,reduceCtorEq,Nat.reduceEqDiff];refine zLy rfl (by omega) ?_)
      rw [hs]
      exact ⟨rfl,rfl⟩
  · exact ⟨by omega,rfl,rfl,rfl,rfl,_,by omega,by omega,rfl⟩

theorem sum (Ns:List Nat) (hN : ∀ N ∈ Ns,N<2 ^ 128) (hn:Ns.length≤1000) (a:AV) (h:H) (wf:Wf h) (hs:Sl h a 2 Ns.length (Ns.flatMap wd)):(om Try.prog KK).call (.fn 65 [a]) h = .ok (.agg (wd (xall Ns))) h:=by
  have hl : ∀ h',lenE Try.prog 90 a h'=some (ii (Ns.length:Int)):=fun h'=>hs.len un_90
  refine ySx (zMy (fn:=Try.f65) Try.func65 rfl rfl rfl rfl rfl ?_)
  simp only [zKv]
  (repeat' (first
  | (with_reducible first|refine zJx ?_|refine zGw ?_|refine zFz ?_|refine zEv ?_|refine zFy ?_|refine zJw ?_|refine zGv ?_|refine zCz ?_|refine zDw ?_|refine zCy ?_|refine zCv ?_|refine zEx ?_|refine zDz ?_|refine zCx ?_|refine zBx ?_|refine zEz ?_|refine zEy ?_|refine zAw ?_|refine zBy ?_)
  | refine zDy ?_|refine zEw rfl ?_|refine zIv ?_|refine zJy ?_
  | ((first|refine zGx rfl rfl rfl rfl rfl fun K_ hK_=>?_|refine zGy rfl rfl rfl rfl rfl fun K_ hK_=>?_);simp only [zAz,zDx,zGz,↓reduceIte,reduceCtorEq,Nat.reduceEqDiff,Bool.not_true,Bool.not_false];refine hK_ _ ?_;clear hK_ K_)
  | refine zDv (by decide) ?_
  | ((try first|refine zKy rfl rfl rfl ?_|refine zIw rfl rfl ?_|refine zKx rfl rfl rfl ?_|refine zJz rfl rfl ?_);(refine zIx fun Q_ hQ_=>?_;simp (disch:=first|omega|(simp only [List.length_cons,List.length_nil,List.length_append];omega)) only [bb,bp,zKv,↓reduceIte,reduceCtorEq,Nat.reduceEqDiff,Nat.reduceLT,Nat.reduceLeDiff,Nat.reduceAdd,Nat.reduceMul,Nat.reduceSub,Nat.reduceBEq,Int.reduceToNat,cond_true,cond_false,eq_self,beq_self_eq_true,hl,zFx wf,zHx wf,zBv wf,zFw wf,zAy wf,zAx,tEvZ4,zIy,zIz,zHv,zHw,zAv wf];first|(refine zCw (Q:=Q_) (fun hp_=>?_) (fun hp_=>?_) <;> first|(exfalso;omega)|(refine hQ_ _ _ ?_;clear hQ_ Q_))|(refine zBw (Q:=Q_) (fun hp_=>?_) (fun hp_=>?_) <;> first|(exfalso;omega)|(refine hQ_ _ _ ?_;clear hQ_ Q_))|(refine hQ_ _ _ ?_;clear hQ_ Q_)))
  | (refine zHz fun K_ hK_=>?_;simp (disch:=omega) only [zFv,zAz,zHy,↓reduceIte,reduceCtorEq,Nat.reduceEqDiff,Nat.reduceLT];refine hK_ _ ?_;clear hK_ K_)))
  refine zOw (α:=Nat) (fun (i:Nat) f d h'=>i≤Ns.length∧f 2 = .ptr (nx h 0) 0∧f 3 = .ptr (nx h 1) 0∧f 7=a∧f 8=ii (Ns.length:Int)∧f 9=ii (i:Int)∧d=[] ∧
    ∃ G w,h.clock≤w∧w≤h.clock+2+G.length∧h'=X h ([.cells (zBz [.int .u64 0,.int .u64 0]) 57,.cells (zBz (wd (xall (Ns.take i)))) 57]++G) w) (fun i=>Ns.length - i) ?_ (Ns.length+1) 0 (by omega) ?_
  · rintro i f d h' ⟨hi,g2,g3,g7,g8,g9,rfl,G,w,hw,hw2,rfl⟩
    by_cases hlt:i<Ns.length
    · obtain ⟨id,off,hix,hld⟩:=hs.at wf hlt zSx
      have hld2:=fun l w=>(hld l w).2
      rw [flat_wd_get hlt] at hld2
      have e1:Ns.take (i+1)=Ns.take i++[Ns[i]]:=List.take_succ_eq_append_getElem hlt
      have hNi:=hN _ (List.getElem_mem hlt)
      have hA:xall (Ns.take i)<2 ^ 128:=xall_lt fun N hN2=>hN N (List.mem_of_mem_take hN2)
      have x1:xall (Ns.take (i+1))=xall (Ns.take i) ^^^ Ns[i]:=by rw [e1,xall_snoc]
      generalize xall (Ns.take i)=A at *
      generalize Ns[i]=B at *
      unfold wd at hld2
      simp only [List.cons_append,List.nil_append]
      unfold wd
      (repeat' (first
  | (with_reducible first|refine zJx ?_|refine zGw ?_|refine zFz ?_|refine zEv ?_|refine zFy ?_|refine zJw ?_|refine zGv ?_|refine zCz ?_|refine zDw ?_|refine zCy ?_|refine zCv ?_|refine zEx ?_|refine zDz ?_|refine zCx ?_|refine zBx ?_|refine zEz ?_|refine zEy ?_|refine zAw ?_|refine zBy ?_)
  | refine zDy ?_|refine zEw rfl ?_|refine zIv ?_|refine zJy ?_
  | ((first|refine zGx rfl rfl rfl rfl rfl fun K_ hK_=>?_|refine zGy rfl rfl rfl rfl rfl fun K_ hK_=>?_);simp only [zAz,zDx,zGz,↓reduceIte,reduceCtorEq,Nat.reduceEqDiff,Bool.not_true,Bool.not_false];refine hK_ _ ?_;clear hK_ K_)
  | refine zDv (by decide) ?_
  | ((try first|refine zKy rfl rfl rfl ?_|refine zIw rfl rfl ?_|refine zKx rfl rfl rfl ?_|refine zJz rfl rfl ?_);(refine zIx fun Q_ hQ_=>?_;simp (disch:=first|omega|(simp only [List.length_cons,List.length_nil,List.length_append];omega)) only [bb,bp,zKv,↓reduceIte,reduceCtorEq,Nat.reduceEqDiff,Nat.reduceLT,Nat.reduceLeDiff,Nat.reduceAdd,Nat.reduceMul,Nat.reduceSub,Nat.reduceBEq,Int.reduceToNat,cond_true,cond_false,eq_self,beq_self_eq_true,hl,g2,g3,g7,g8,g9,hix,hld2,zFx wf,zHx wf,zBv wf,zFw wf,zAy wf,zAx,tEvZ4,zIy,zIz,zHv,zHw,zAv wf];first|(refine zCw (Q:=Q_) (fun hp_=>?_) (fun hp_=>?_) <;> first|(exfalso;omega)|(refine hQ_ _ _ ?_;clear hQ_ Q_))|(refine zBw (Q:=Q_) (fun hp_=>?_) (fun hp_=>?_) <;> first|(exfalso;omega)|(refine hQ_ _ _ ?_;clear hQ_ Q_))|(refine hQ_ _ _ ?_;clear hQ_ Q_)))
  | (refine zHz fun K_ hK_=>?_;simp (disch:=omega) only [zFv,zAz,zHy,↓reduceIte,reduceCtorEq,Nat.reduceEqDiff,Nat.reduceLT];refine hK_ _ ?_;clear hK_ K_)))
      refine zOw (fun (k:Nat) f d' h'=>k≤2∧f 2 = .ptr (nx h 0) 0∧f 3 = .ptr (nx h 1) 0∧f 5 = .ptr (nx h (2+G.length)) 0∧f 7=a∧f 8=ii (Ns.length:Int)∧f 9=ii (i:Int)∧f 13=ii (k:Int)∧d'=[] ∧
        ∃ w,h.clock≤w∧w≤h.clock+2+G.length+1∧h'=X h (.cells (zBz [.int .u64 0,.int .u64 0]) 57 :: .cells (zBz [uu (if 0<k then ((A % 2 ^ 64) ^^^ (B % 2 ^ 64)) % 2 ^ 64 else A % 2 ^ 64),uu (if 1<k then ((A >>> 64) ^^^ (B >>> 64)) % 2 ^ 64 else A >>> 64)]) 57 :: (G++[.cells (zBz [uu (B % 2 ^ 64),uu (B >>> 64)]) 57])) w) (fun k=>2 - k) ?_ 3 0 (by omega) ?_
      · rintro k f d' h' ⟨hk,g2,g3,g5,g7,g8,g9,g13,rfl,w,hw,hw2,rfl⟩
        have lB : ∀ (c1 c2:AO) off w,load1 (nx h (2+G.length)) off (X h (c1 :: c2 :: (G++[.cells (zBz [uu (B % 2 ^ 64),uu (B >>> 64)]) 57])) w)=[uu (B % 2 ^ 64),uu (B >>> 64)][off]?:=fun c1 c2 off w=>by
          rw [zHx wf,show c1 :: c2 :: (G++[.cells (zBz [uu (B % 2 ^ 64),uu (B >>> 64)]) 57])=[c1,c2]++G++[.cells (zBz [uu (B % 2 ^ 64),uu (B >>> 64)]) 57] from rfl,show 2+G.length=([c1,c2]++G).length by simp;omega,yWw]
          show cellAt (some (AO.cells (zBz [uu (B % 2 ^ 64),uu (B >>> 64)]) 57)) off=_
          rw [yXz]
        have lB0:=fun c1 c2 w=>lB c1 c2 0 w
        have lB1:=fun c1 c2 w=>lB c1 c2 1 w
        rcases (by omega:k=0∨k=1∨k=2) with rfl|rfl|rfl
        · have g13:f 13 = .int .i64 0:=g13
          simp only [Nat.reduceLT,Nat.lt_irrefl,↓reduceIte]
          (repeat' (first
  | (with_reducible first|refine zJx ?_|refine zGw ?_|refine zFz ?_|refine zEv ?_|refine zFy ?_|refine zJw ?_|refine zGv ?_|refine zCz ?_|refine zDw ?_|refine zCy ?_|refine zCv ?_|refine zEx ?_|refine zDz ?_|refine zCx ?_|refine zBx ?_|refine zEz ?_|refine zEy ?_|refine zAw ?_|refine zBy ?_)
  | refine zDy ?_|refine zEw rfl ?_|refine zIv ?_|refine zJy ?_
  | ((first|refine zGx rfl rfl rfl rfl rfl fun K_ hK_=>?_|refine zGy rfl rfl rfl rfl rfl fun K_ hK_=>?_);simp only [zAz,zDx,zGz,↓reduceIte,reduceCtorEq,Nat.reduceEqDiff,Bool.not_true,Bool.not_false];refine hK_ _ ?_;clear hK_ K_)
  | refine zDv (by decide) ?_
  | ((try first|refine zKy rfl rfl rfl ?_|refine zIw rfl rfl ?_|refine zKx rfl rfl rfl ?_|refine zJz rfl rfl ?_);(refine zIx fun Q_ hQ_=>?_;simp (disch:=first|omega|(simp only [List.length_cons,List.length_nil,List.length_append];omega)) only [bb,bp,zKv,↓reduceIte,reduceCtorEq,Nat.reduceEqDiff,Nat.reduceLT,Nat.reduceLeDiff,Nat.reduceAdd,Nat.reduceMul,Nat.reduceSub,Nat.reduceBEq,Int.reduceToNat,cond_true,cond_false,eq_self,beq_self_eq_true,g2,g3,g5,g7,g8,g9,g13,zFx wf,zHx wf,zBv wf,zFw wf,zAy wf,zAx,tEvZ4,zIy,zIz,zHv,zHw,zAv wf];first|(refine zCw (Q:=Q_) (fun hp_=>?_) (fun hp_=>?_) <;> first|(exfalso;omega)|(refine hQ_ _ _ ?_;clear hQ_ Q_))|(refine zBw (Q:=Q_) (fun hp_=>?_) (fun hp_=>?_) <;> first|(exfalso;omega)|(refine hQ_ _ _ ?_;clear hQ_ Q_))|(refine hQ_ _ _ ?_;clear hQ_ Q_)))
  | (refine zHz fun K_ hK_=>?_;simp (disch:=omega) only [zFv,zAz,zHy,↓reduceIte,reduceCtorEq,Nat.reduceEqDiff,Nat.reduceLT];refine hK_ _ ?_;clear hK_ K_)))
          refine zPy [.no,.no,.no,.no,.no,.no,.full,.full,.full] (by kernel_rfl) ?_
          (repeat' (first
  | (with_reducible first|refine zJx ?_|refine zGw ?_|refine zFz ?_|refine zEv ?_|refine zFy ?_|refine zJw ?_|refine zGv ?_|refine zCz ?_|refine zDw ?_|refine zCy ?_|refine zCv ?_|refine zEx ?_|refine zDz ?_|refine zCx ?_|refine zBx ?_|refine zEz ?_|refine zEy ?_|refine zAw ?_|refine zBy ?_)
  | refine zDy ?_|refine zEw rfl ?_|refine zIv ?_|refine zJy ?_
  | ((first|refine zGx rfl rfl rfl rfl rfl fun K_ hK_=>?_|refine zGy rfl rfl rfl rfl rfl fun K_ hK_=>?_);simp only [zAz,zDx,zGz,↓reduceIte,reduceCtorEq,Nat.reduceEqDiff,Bool.not_true,Bool.not_false];refine hK_ _ ?_;clear hK_ K_)
  | refine zDv (by decide) ?_
  | ((try first|refine zKy rfl rfl rfl ?_|refine zIw rfl rfl ?_|refine zKx rfl rfl rfl ?_|refine zJz rfl rfl ?_);(refine zIx fun Q_ hQ_=>?_;simp (disch:=first|omega|(simp only [List.length_cons,List.length_nil,List.length_append];omega)) only [bb,bp,zKv,↓reduceIte,reduceCtorEq,Nat.reduceEqDiff,Nat.reduceLT,Nat.reduceLeDiff,Nat.reduceAdd,Nat.reduceMul,Nat.reduceSub,Nat.reduceBEq,Int.reduceToNat,cond_true,cond_false,eq_self,beq_self_eq_true,g2,g3,g5,g7,g8,g9,g13,lB0,lB1,ix0,ix1,yTy,yXy,yTw,ySy,yTz,ySv,ySw,zFx wf,zHx wf,zBv wf,zFw wf,zAy wf,tEvZ4,zIy,zIz,zHv,zHw,zAv wf];first|(refine zCw (Q:=Q_) (fun hp_=>?_) (fun hp_=>?_) <;> first|(exfalso;omega)|(refine hQ_ _ _ ?_;clear hQ_ Q_))|(refine zBw (Q:=Q_) (fun hp_=>?_) (fun hp_=>?_) <;> first|(exfalso;omega)|(refine hQ_ _ _ ?_;clear hQ_ Q_))|(refine hQ_ _ _ ?_;clear hQ_ Q_)))
  | (refine zHz fun K_ hK_=>?_;simp (disch:=omega) only [zFv,zAz,zHy,↓reduceIte,reduceCtorEq,Nat.reduceEqDiff,Nat.reduceLT];refine hK_ _ ?_;clear hK_ K_)))
          exact zJv 1 (by decide) ⟨by omega,by simp only [zAz,↓reduceIte,reduceCtorEq,Nat.reduceEqDiff];exact g2,by simp only [zAz,↓reduceIte,reduceCtorEq,Nat.reduceEqDiff];exact g3,by simp only [zAz,↓reduceIte,reduceCtorEq,Nat.reduceEqDiff];exact g5,by simp only [zAz,↓reduceIte,reduceCtorEq,Nat.reduceEqDiff];exact g7,by simp only [zAz,↓reduceIte,reduceCtorEq,Nat.reduceEqDiff];exact g8,by simp only [zAz,↓reduceIte,reduceCtorEq,Nat.reduceEqDiff];exact g9,by simp only [zAz,↓reduceIte,reduceCtorEq,Nat.reduceEqDiff];rfl,rfl,_,by omega,by omega,rfl⟩
        · have g13:f 13 = .int .i64 1:=g13
          simp only [Nat.reduceLT,Nat.lt_irrefl,↓reduceIte]
          (repeat' (first
  | (with_reducible first|refine zJx ?_|refine zGw ?_|refine zFz ?_|refine zEv ?_|refine zFy ?_|refine zJw ?_|refine zGv ?_|refine zCz ?_|refine zDw ?_|refine zCy ?_|refine zCv ?_|refine zEx ?_|refine zDz ?_|refine zCx ?_|refine zBx ?_|refine zEz ?_|refine zEy ?_|refine zAw ?_|refine zBy ?_)
  | refine zDy ?_|refine zEw rfl ?_|refine zIv ?_|refine zJy ?_
  | ((first|refine zGx rfl rfl rfl rfl rfl fun K_ hK_=>?_|refine zGy rfl rfl rfl rfl rfl fun K_ hK_=>?_);simp only [zAz,zDx,zGz,↓reduceIte,reduceCtorEq,Nat.reduceEqDiff,Bool.not_true,Bool.not_false];refine hK_ _ ?_;clear hK_ K_)
  | refine zDv (by decide) ?_
  | ((try first|refine zKy rfl rfl rfl ?_|refine zIw rfl rfl ?_|refine zKx rfl rfl rfl ?_|refine zJz rfl rfl ?_);(refine zIx fun Q_ hQ_=>?_;simp (disch:=first|omega|(simp only [List.length_cons,List.length_nil,List.length_append];omega)) only [bb,bp,zKv,↓reduceIte,reduceCtorEq,Nat.reduceEqDiff,Nat.reduceLT,Nat.reduceLeDiff,Nat.reduceAdd,Nat.reduceMul,Nat.reduceSub,Nat.reduceBEq,Int.reduceToNat,cond_true,cond_false,eq_self,beq_self_eq_true,g2,g3,g5,g7,g8,g9,g13,zFx wf,zHx wf,zBv wf,zFw wf,zAy wf,zAx,tEvZ4,zIy,zIz,zHv,zHw,zAv wf];first|(refine zCw (Q:=Q_) (fun hp_=>?_) (fun hp_=>?_) <;> first|(exfalso;omega)|(refine hQ_ _ _ ?_;clear hQ_ Q_))|(refine zBw (Q:=Q_) (fun hp_=>?_) (fun hp_=>?_) <;> first|(exfalso;omega)|(refine hQ_ _ _ ?_;clear hQ_ Q_))|(refine hQ_ _ _ ?_;clear hQ_ Q_)))
  | (refine zHz fun K_ hK_=>?_;simp (disch:=omega) only [zFv,zAz,zHy,↓reduceIte,reduceCtorEq,Nat.reduceEqDiff,Nat.reduceLT];refine hK_ _ ?_;clear hK_ K_)))
          refine zPy [.no,.no,.no,.no,.no,.no,.full,.full,.full] (by kernel_rfl) ?_
          (repeat' (first
  | (with_reducible first|refine zJx ?_|refine zGw ?_|refine zFz ?_|refine zEv ?_|refine zFy ?_|refine zJw ?_|refine zGv ?_|refine zCz ?_|refine zDw ?_|refine zCy ?_|refine zCv ?_|refine zEx ?_|refine zDz ?_|refine zCx ?_|refine zBx ?_|refine zEz ?_|refine zEy ?_|refine zAw ?_|refine zBy ?_)
  | refine zDy ?_|refine zEw rfl ?_|refine zIv ?_|refine zJy ?_
  | ((first|refine zGx rfl rfl rfl rfl rfl fun K_ hK_=>?_|refine zGy rfl rfl rfl rfl rfl fun K_ hK_=>?_);simp only [zAz,zDx,zGz,↓reduceIte,reduceCtorEq,Nat.reduceEqDiff,Bool.not_true,Bool.not_false];refine hK_ _ ?_;clear hK_ K_)
  | refine zDv (by decide) ?_
  | ((try first|refine zKy rfl rfl rfl ?_|refine zIw rfl rfl ?_|refine zKx rfl rfl rfl ?_|refine zJz rfl rfl ?_);(refine zIx fun Q_ hQ_=>?_;simp (disch:=first|omega|(simp only [List.length_cons,List.length_nil,List.length_append];omega)) only [bb,bp,zKv,↓reduceIte,reduceCtorEq,Nat.reduceEqDiff,Nat.reduceLT,Nat.reduceLeDiff,Nat.reduceAdd,Nat.reduceMul,Nat.reduceSub,Nat.reduceBEq,Int.reduceToNat,cond_true,cond_false,eq_self,beq_self_eq_true,g2,g3,g5,g7,g8,g9,g13,lB0,lB1,ix0,ix1,yTy,yXy,yTw,ySy,yTz,ySv,ySw,zFx wf,zHx wf,zBv wf,zFw wf,zAy wf,tEvZ4,zIy,zIz,zHv,zHw,zAv wf];first|(refine zCw (Q:=Q_) (fun hp_=>?_) (fun hp_=>?_) <;> first|(exfalso;omega)|(refine hQ_ _ _ ?_;clear hQ_ Q_))|(refine zBw (Q:=Q_) (fun hp_=>?_) (fun hp_=>?_) <;> first|(exfalso;omega)|(refine hQ_ _ _ ?_;clear hQ_ Q_))|(refine hQ_ _ _ ?_;clear hQ_ Q_)))
  | (refine zHz fun K_ hK_=>?_;simp (disch:=omega) only [zFv,zAz,zHy,↓reduceIte,reduceCtorEq,Nat.reduceEqDiff,Nat.reduceLT];refine hK_ _ ?_;clear hK_ K_)))
          exact zJv 2 (by decide) ⟨by omega,by simp only [zAz,↓reduceIte,reduceCtorEq,Nat.reduceEqDiff];exact g2,by simp only [zAz,↓reduceIte,reduceCtorEq,Nat.reduceEqDiff];exact g3,by simp only [zAz,↓reduceIte,reduceCtorEq,Nat.reduceEqDiff];exact g5,by simp only [zAz,↓reduceIte,reduceCtorEq,Nat.reduceEqDiff];exact g7,by simp only [zAz,↓reduceIte,reduceCtorEq,Nat.reduceEqDiff];exact g8,by simp only [zAz,↓reduceIte,reduceCtorEq,Nat.reduceEqDiff];exact g9,by simp only [zAz,↓reduceIte,reduceCtorEq,Nat.reduceEqDiff];rfl,rfl,_,by omega,by omega,rfl⟩
        · have g13:f 13 = .int .i64 2:=g13
          simp only [Nat.reduceLT,Nat.lt_irrefl,↓reduceIte]
          (repeat' (first
  | (with_reducible first|refine zJx ?_|refine zGw ?_|refine zFz ?_|refine zEv ?_|refine zFy ?_|refine zJw ?_|refine zGv ?_|refine zCz ?_|refine zDw ?_|refine zCy ?_|refine zCv ?_|refine zEx ?_|refine zDz ?_|refine zCx ?_|refine zBx ?_|refine zEz ?_|refine zEy ?_|refine zAw ?_|refine zBy ?_)
  | refine zDy ?_|refine zEw rfl ?_|refine zIv ?_|refine zJy ?_
  | ((first|refine zGx rfl rfl rfl rfl rfl fun K_ hK_=>?_|refine zGy rfl rfl rfl rfl rfl fun K_ hK_=>?_);simp only [zAz,zDx,zGz,↓reduceIte,reduceCtorEq,Nat.reduceEqDiff,Bool.not_true,Bool.not_false];refine hK_ _ ?_;clear hK_ K_)
  | refine zDv (by decide) ?_
  | ((try first|refine zKy rfl rfl rfl ?_|refine zIw rfl rfl ?_|refine zKx rfl rfl rfl ?_|refine zJz rfl rfl ?_);(refine zIx fun Q_ hQ_=>?_;simp (disch:=first|omega|(simp only [List.length_cons,List.length_nil,List.length_append];omega)) only [bb,bp,zKv,↓reduceIte,reduceCtorEq,Nat.reduceEqDiff,Nat.reduceLT,Nat.reduceLeDiff,Nat.reduceAdd,Nat.reduceMul,Nat.reduceSub,Nat.reduceBEq,Int.reduceToNat,cond_true,cond_false,eq_self,beq_self_eq_true,g2,g3,g5,g7,g8,g9,g13,zFx wf,zHx wf,zBv wf,zFw wf,zAy wf,zAx,tEvZ4,zIy,zIz,zHv,zHw,zAv wf];first|(refine zCw (Q:=Q_) (fun hp_=>?_) (fun hp_=>?_) <;> first|(exfalso;omega)|(refine hQ_ _ _ ?_;clear hQ_ Q_))|(refine zBw (Q:=Q_) (fun hp_=>?_) (fun hp_=>?_) <;> first|(exfalso;omega)|(refine hQ_ _ _ ?_;clear hQ_ Q_))|(refine hQ_ _ _ ?_;clear hQ_ Q_)))
  | (refine zHz fun K_ hK_=>?_;simp (disch:=omega) only [zFv,zAz,zHy,↓reduceIte,reduceCtorEq,Nat.reduceEqDiff,Nat.reduceLT];refine hK_ _ ?_;clear hK_ K_)))
          refine zJv (i+1) (by omega) ⟨hlt,by simp only [zAz,↓reduceIte,reduceCtorEq,Nat.reduceEqDiff];exact g2,by simp only [zAz,↓reduceIte,reduceCtorEq,Nat.reduceEqDiff];exact g3,by simp only [zAz,↓reduceIte,reduceCtorEq,Nat.reduceEqDiff];exact g7,by simp only [zAz,↓reduceIte,reduceCtorEq,Nat.reduceEqDiff];exact g8,by simp only [zAz,↓reduceIte,reduceCtorEq,Nat.reduceEqDiff];rfl,rfl,G++[.cells (zBz [uu (B % 2 ^ 64),uu (B >>> 64)]) 57],w,hw,by simp only [List.length_append,List.length_cons,List.length_nil];omega,?_⟩
          rw [x1]
          rw [xor_lo,xor_hi hA hNi]
      · refine ⟨by omega,by simp only [zAz,↓reduceIte,reduceCtorEq,Nat.reduceEqDiff];exact g2,by simp only [zAz,↓reduceIte,reduceCtorEq,Nat.reduceEqDiff];exact g3,by simp only [zAz,↓reduceIte,reduceCtorEq,Nat.reduceEqDiff];rw [show 2+G.length=G.length+1+1 by omega],by simp only [zAz,↓reduceIte,reduceCtorEq,Nat.reduceEqDiff];exact g7,by simp only [zAz,↓reduceIte,reduceCtorEq,Nat.reduceEqDiff];exact g8,by simp only [zAz,↓reduceIte,reduceCtorEq,Nat.reduceEqDiff];exact g9,by simp only [zAz,↓reduceIte,reduceCtorEq,Nat.reduceEqDiff];rfl,rfl,_,?_,?_,rfl⟩
        all_goals omega
    · have:i=Ns.length:=by omega
      subst this
      rw [List.take_length]
      simp only [List.cons_append,List.nil_append]
      unfold wd
      (repeat' (first
  | (with_reducible first|refine zJx ?_|refine zGw ?_|refine zFz ?_|refine zEv ?_|refine zFy ?_|refine zJw ?_|refine zGv ?_|refine zCz ?_|refine zDw ?_|refine zCy ?_|refine zCv ?_|refine zEx ?_|refine zDz ?_|refine zCx ?_|refine zBx ?_|refine zEz ?_|refine zEy ?_|refine zAw ?_|refine zBy ?_)
  | refine zDy ?_|refine zEw rfl ?_|refine zIv ?_|refine zJy ?_
  | ((first|refine zGx rfl rfl rfl rfl rfl fun K_ hK_=>?_|refine zGy rfl rfl rfl rfl rfl fun K_ hK_=>?_);simp only [zAz,zDx,zGz,↓reduceIte,reduceCtorEq,Nat.reduceEqDiff,Bool.not_true,Bool.not_false];refine hK_ _ ?_;clear hK_ K_)
  | refine zDv (by decide) ?_
  | ((try first|refine zKy rfl rfl rfl ?_|refine zIw rfl rfl ?_|refine zKx rfl rfl rfl ?_|refine zJz rfl rfl ?_);(refine zIx fun Q_ hQ_=>?_;simp (disch:=first|omega|(simp only [List.length_cons,List.length_nil,List.length_append];omega)) only [bb,bp,zKv,↓reduceIte,reduceCtorEq,Nat.reduceEqDiff,Nat.reduceLT,Nat.reduceLeDiff,Nat.reduceAdd,Nat.reduceMul,Nat.reduceSub,Nat.reduceBEq,Int.reduceToNat,cond_true,cond_false,eq_self,beq_self_eq_true,hl,g2,g3,g7,g8,g9,zFx wf,zHx wf,zBv wf,zFw wf,zAy wf,zAx,tEvZ4,zIy,zIz,zHv,zHw,zAv wf];first|(refine zCw (Q:=Q_) (fun hp_=>?_) (fun hp_=>?_) <;> first|(exfalso;omega)|(refine hQ_ _ _ ?_;clear hQ_ Q_))|(refine zBw (Q:=Q_) (fun hp_=>?_) (fun hp_=>?_) <;> first|(exfalso;omega)|(refine hQ_ _ _ ?_;clear hQ_ Q_))|(refine hQ_ _ _ ?_;clear hQ_ Q_)))
  | (refine zHz fun K_ hK_=>?_;simp (disch:=omega) only [zFv,zAz,zHy,↓reduceIte,reduceCtorEq,Nat.reduceEqDiff,Nat.reduceLT];refine hK_ _ ?_;clear hK_ K_)))
      refine zKw _ _ rfl (retc0 (by decide) (by simp (disch:=first|omega|(simp only [List.length_cons,List.length_nil,List.length_append];omega)) only [bb,bp,zKv,↓reduceIte,reduceCtorEq,Nat.reduceEqDiff,Nat.reduceLT,Nat.reduceLeDiff,Nat.reduceAdd,Nat.reduceMul,Nat.reduceSub,Nat.reduceBEq,Int.reduceToNat,cond_true,cond_false,eq_self,beq_self_eq_true,g2,zBv wf,wdF,tEvZ4,zIy,zIz,zHv,zHw,zAv wf];rfl)) ?_
      refine zLy rfl (by omega) ?_
      exact ⟨rfl,rfl⟩
  · exact ⟨by omega,rfl,rfl,rfl,rfl,rfl,rfl,[],h.clock,by omega,by omega,by rw [List.take_zero];rfl⟩
end Go.Proofs.Ytmincoafjnnkpaa
end

section
namespace Go.Ev
section
variable {P:Program}
theorem pureRun_eqU64 {t:TypeId} {k:IntKind} {d:Nat} {a b:Int} (hu:P.underlying t=some (.int k)):pureRun P (Op.equalIn (d+1) t (.int .u64 a) (.int .u64 b))=some (a == b):=by
  rw [Op.equalIn,zLx,zMx hu]
  rfl
theorem xLx {t e:TypeId} {k:IntKind} {d:Nat} {a b a' b':Int} (hu:P.underlying t=some (.array 2 e)) (he:P.underlying e=some (.int k)) (hz:pureRun P (sizeOf e)=some 1) :
    pureRun P (Op.equalIn (d+2) t (.agg #[.int .u64 a,.int .u64 b]) (.agg #[.int .u64 a',.int .u64 b']))=some (a == a' && b == b'):=by
  have p0 : ∀ (x y:Int),pureRun P (part e #[.int .u64 x,.int .u64 y] 0)=some (.int .u64 x):=fun x y=>xBz he rfl
  have p1 : ∀ (x y:Int),pureRun P (part e #[.int .u64 x,.int .u64 y] 1)=some (.int .u64 y):=fun x y=>xBz he rfl
  have q : ∀ (x y:Int),pureRun P (Op.equalIn (d+1) e (.int .u64 x) (.int .u64 y))=some (x == y):=fun x y=>pureRun_eqU64 he
  rw [Op.equalIn,zLx,zMx hu]
  simp only [Option.bind_some]
  rw [zLx,hz]
  simp only [Option.bind_some]
  simp [Std.Legacy.Range.forIn_eq_forIn_range',List.range',zLx,p0,p1,q,Std.Legacy.Range.size]
  by_cases h1:a=a'
  · have g1:(a == a')=true:=by simpa using h1
    by_cases h2:b=b'
    · have g2:(b == b')=true:=by simpa using h2
      simp [h1,h2,yRy,zLx,p0,p1,q]
    · have g2:(b == b')=false:=by simpa using h2
      simp [h1,h2,g2,yRy,zLx,p0,p1,q]
  · have g1:(a == a')=false:=by simpa using h1
    simp [h1,g1,yRy,zLx,p0,p1,q]
theorem b_arr2 {t e:TypeId} {X Y:Operand} {k:IntKind} {a b a' b':Int} (hu:P.underlying t=some (.array 2 e)) (he:P.underlying e=some (.int k)) (hz:pureRun P (sizeOf e)=some 1) (hg:P.eqGuardType P.depth t=false) :
    binE P .eql t X Y (.agg [.int .u64 a,.int .u64 b]) (.agg [.int .u64 a',.int .u64 b'])=some (.bool (decide (a=a'∧b=b'))):=by
  have es:binSlow P .eql t X Y (.agg [.int .u64 a,.int .u64 b]) (.agg [.int .u64 a',.int .u64 b'])=pureVal P (do eqGuard .eql t X Y (.agg #[.int .u64 a,.int .u64 b]) (.agg #[.int .u64 a',.int .u64 b']);binOp .eql t (.agg #[.int .u64 a,.int .u64 b]) (.agg #[.int .u64 a',.int .u64 b'])):=rfl
  have eb:binE P .eql t X Y (.agg [.int .u64 a,.int .u64 b]) (.agg [.int .u64 a',.int .u64 b'])=binSlow P .eql t X Y (.agg [.int .u64 a,.int .u64 b]) (.agg [.int .u64 a',.int .u64 b']):=rfl
  rw [eb,es]
  have e1:pureRun P (eqGuard .eql t X Y (.agg #[.int .u64 a,.int .u64 b]) (.agg #[.int .u64 a',.int .u64 b']))=some ():=by
    unfold eqGuard
    simp [zLx,xGw,hg,yRy]
  have e2:pureRun P (binOp .eql t (.agg #[.int .u64 a,.int .u64 b]) (.agg #[.int .u64 a',.int .u64 b']))=some (.bool (decide (a=a'∧b=b'))):=by
    show pureRun P (do pure (Value.bool (← Op.equalIn (9998+2) t _ _)))=_
    rw [zLx,xLx hu he hz]
    have:(a == a' && b == b')=decide (a=a'∧b=b'):=by
      rw [Bool.eq_iff_iff];simp
    rw [this];rfl
  unfold pureVal
  rw [zLx,e1]
  simp only [Option.bind_some]
  rw [e2]
  rfl
theorem xPv {h0:H} (wf:Wf h0) {t e size bytes n:Nat} {z:AV} {l:List AO} {w:Nat} (hu:P.underlying t=some (.slice e)) (hz:sizeE P e=some size) (E:El P e size bytes z) (hn:n≤1048576) (hb:bytes≤100000) (h1:z.cells=[z]) :
    makeSliceE P t (.int .i64 (n:Int)) (.int .i64 (n:Int)) (X h0 l w) = .ok (.sl (nx h0 l.length) 0 n (some n) size) (X h0 (l++[.cells (zBz (List.replicate n z)) e]) w):=by
  obtain ⟨i,hi,rfl⟩:=Option.map_eq_some_iff.1 E.info
  have hs:i.size=size:=by
    unfold sizeE at hz
    rw [hi] at hz
    dsimp only at hz
    rw [zLw] at hz
    exact Option.some.inj hz
  unfold makeSliceE
  rw [hu]
  dsimp only
  rw [hi,E.zero]
  dsimp only
  rw [yXv]
  dsimp only
  have hc:(Nat.ble n n && Nat.ble n 1048576 && Nat.ble (i.bytes * n) 281474976710656 && Nat.beq z.cells.length i.size)=true:=by
    have h2:i.bytes * n≤100000 * 1048576:=Nat.mul_le_mul hb hn
    rw [E.cells,hs,Nat.ble_eq_true_of_le (Nat.le_refl n),Nat.ble_eq_true_of_le (show n≤1048576 by omega),Nat.ble_eq_true_of_le (show i.bytes * n≤281474976710656 by omega)]
    simp
  rw [hc]
  dsimp only [cond]
  rw [zAv wf,h1,zerosE_one,hs]
end
end Go.Ev
end
