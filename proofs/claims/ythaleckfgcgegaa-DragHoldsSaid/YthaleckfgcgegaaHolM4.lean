import Derived.Test.YthaleckfgcgegaaHolM3
import Derived.Test.YthaleckfgcgegaaChecked
import Derived.Eval
import Derived.KernelRfl
import Derived.Test.YthaleckfgcgegaaRows
import Derived.WalkKit
import Derived.ProofKit
import Derived.OpenShut
set_option linter.all false
section
namespace Go.Proofs.Ythaleckfgcgegaa
open Go.Ev
set_option maxRecDepth 100000
set_option maxHeartbeats 0
theorem mixed :Try.prog.follows .mixedOrders=true:=Checked.mixed Try.checked
theorem cW_run :chk cW ((evc Try.prog [] 100000).call (.fn cW.g cW.args) (smallH cW.tb))=true:=by kernel_rfl
theorem cW_ok :ConOK Try.prog cW:=con_run (P:=Try.prog) mixed (cons:=[]) (n:=100000) (c:=cW) (fun _ h=>by cases h) cW_run
end Go.Proofs.Ythaleckfgcgegaa
end

section
namespace Go.Proofs.Ythaleckfgcgegaa
open Go.Ev
set_option maxRecDepth 100000
theorem ia_2 :isAggB Try.prog 2=some false:=by kernel_rfl
theorem sz_2 :sizeE Try.prog 2=some 1:=by kernel_rfl
theorem ze_2 :zeroE Try.prog 2=some (.int .i64 (0)):=by kernel_rfl
theorem el_2 :El Try.prog 2 1 8 (.int .i64 (0)):=⟨by kernel_rfl,by kernel_rfl,rfl⟩
theorem ia_3 :isAggB Try.prog 3=some false:=by kernel_rfl
theorem sz_3 :sizeE Try.prog 3=some 1:=by kernel_rfl
theorem ze_3 :zeroE Try.prog 3=some (.int .i64 (0)):=by kernel_rfl
theorem ia_4 :isAggB Try.prog 4=some false:=by kernel_rfl
theorem sz_4 :sizeE Try.prog 4=some 1:=by kernel_rfl
theorem ze_4 :zeroE Try.prog 4=some (.bool false):=by kernel_rfl
theorem un_4 :Try.prog.underlying 4=some .bool:=Try.underlying4
theorem yUx :isAggB Try.prog 22=some false:=by kernel_rfl
theorem yDw :sizeE Try.prog 22=some 1:=by kernel_rfl
theorem zIx (n:Nat) (parts:List (Nat × AV)) (h:H):buildSliceE Try.prog 22 n parts h=bif Nat.ble (n * 1) 16777216 && Nat.beq 1 1 then (match fillE (fun i=>some (i * 1,1)) (zerosE [.int .i64 (0)] n) parts with|some cs=>newSlice 2 cs n n 1 h|none=>.no) else .no:=by kernel_rfl
theorem ik_22 :idxKind Try.prog 22=some (none,1):=by kernel_rfl
theorem yZw :Try.prog.underlying 22=some (.slice 2):=Try.underlying22
theorem yUy :isAggB Try.prog 24=some true:=by kernel_rfl
theorem yDx :sizeE Try.prog 24=some 2:=by kernel_rfl
theorem zZv :zeroE Try.prog 24=some (.agg [.nils,.nils]):=by kernel_rfl
theorem zRx :fieldOff Try.prog 24 0=some 0:=by kernel_rfl
theorem zRy :fieldOff Try.prog 24 1=some 1:=by kernel_rfl
theorem yWz (parts:List (Nat × AV)):buildE Try.prog 24 parts=match fillE (fun i=>[(0,1),(1,1)][i]?) [.nils,.nils] parts with|some cs=>some (.agg cs)|none=>none:=by kernel_rfl
theorem yUz :isAggB Try.prog 27=some false:=by kernel_rfl
theorem yDy :sizeE Try.prog 27=some 1:=by kernel_rfl
theorem zZw :zeroE Try.prog 27=some (.int .i64 (0)):=by kernel_rfl
theorem yTv :isAggB Try.prog 33=some true:=by kernel_rfl
theorem zWw :sizeE Try.prog 33=some 2:=by kernel_rfl
theorem zZx :zeroE Try.prog 33=some (.agg [.int .i64 (0),.int .i64 (0)]):=by kernel_rfl
theorem zRz :fieldOff Try.prog 33 0=some 0:=by kernel_rfl
theorem zQv :fieldOff Try.prog 33 1=some 1:=by kernel_rfl
theorem yVv (parts:List (Nat × AV)):buildE Try.prog 33 parts=match fillE (fun i=>[(0,1),(1,1)][i]?) [.int .i64 (0),.int .i64 (0)] parts with|some cs=>some (.agg cs)|none=>none:=by kernel_rfl
theorem el_33 :El Try.prog 33 2 16 (.agg [.int .i64 (0),.int .i64 (0)]):=⟨by kernel_rfl,by kernel_rfl,rfl⟩
theorem yTw :isAggB Try.prog 35=some true:=by kernel_rfl
theorem yDz :sizeE Try.prog 35=some 16:=by kernel_rfl
theorem zZy :zeroE Try.prog 35=some (.agg [.int .i64 (0),.int .i64 (0),.int .i64 (0),.int .i64 (0),.int .i64 (0),.int .i64 (0),.int .i64 (0),.int .i64 (0),.int .i64 (0),.int .i64 (0),.int .i64 (0),.int .i64 (0),.int .i64 (0),.int .i64 (0),.int .i64 (0),.int .i64 (0)]):=by kernel_rfl
theorem zQw :fieldOff Try.prog 35 0=some 0:=by kernel_rfl
theorem zQx :fieldOff Try.prog 35 1=some 1:=by kernel_rfl
theorem zQy :fieldOff Try.prog 35 2=some 2:=by kernel_rfl
theorem zQz :fieldOff Try.prog 35 3=some 3:=by kernel_rfl
theorem zPv :fieldOff Try.prog 35 4=some 4:=by kernel_rfl
theorem zPw :fieldOff Try.prog 35 5=some 6:=by kernel_rfl
theorem zPx :fieldOff Try.prog 35 6=some 8:=by kernel_rfl
theorem zPy :fieldOff Try.prog 35 7=some 10:=by kernel_rfl
theorem zPz :fieldOff Try.prog 35 8=some 12:=by kernel_rfl
theorem zOv :fieldOff Try.prog 35 9=some 14:=by kernel_rfl
theorem yVw (parts:List (Nat × AV)):buildE Try.prog 35 parts=match fillE (fun i=>[(0,1),(1,1),(2,1),(3,1),(4,2),(6,2),(8,2),(10,2),(12,2),(14,2)][i]?) [.int .i64 (0),.int .i64 (0),.int .i64 (0),.int .i64 (0),.int .i64 (0),.int .i64 (0),.int .i64 (0),.int .i64 (0),.int .i64 (0),.int .i64 (0),.int .i64 (0),.int .i64 (0),.int .i64 (0),.int .i64 (0),.int .i64 (0),.int .i64 (0)] parts with|some cs=>some (.agg cs)|none=>none:=by kernel_rfl
theorem yTx :isAggB Try.prog 37=some true:=by kernel_rfl
theorem yCv :sizeE Try.prog 37=some 6:=by kernel_rfl
theorem zZz :zeroE Try.prog 37=some (.agg [.int .i64 (0),.int .i64 (0),.int .i64 (0),.int .i64 (0),.int .i64 (0),.int .i64 (0)]):=by kernel_rfl
theorem zOw :fieldOff Try.prog 37 0=some 0:=by kernel_rfl
theorem zOx :fieldOff Try.prog 37 1=some 1:=by kernel_rfl
theorem zOy :fieldOff Try.prog 37 2=some 2:=by kernel_rfl
theorem zOz :fieldOff Try.prog 37 3=some 3:=by kernel_rfl
theorem zNv :fieldOff Try.prog 37 4=some 4:=by kernel_rfl
theorem zNw :fieldOff Try.prog 37 5=some 5:=by kernel_rfl
theorem yVx (parts:List (Nat × AV)):buildE Try.prog 37 parts=match fillE (fun i=>[(0,1),(1,1),(2,1),(3,1),(4,1),(5,1)][i]?) [.int .i64 (0),.int .i64 (0),.int .i64 (0),.int .i64 (0),.int .i64 (0),.int .i64 (0)] parts with|some cs=>some (.agg cs)|none=>none:=by kernel_rfl
theorem yTy :isAggB Try.prog 43=some false:=by kernel_rfl
theorem yCw :sizeE Try.prog 43=some 1:=by kernel_rfl
theorem zIy (n:Nat) (parts:List (Nat × AV)) (h:H):buildSliceE Try.prog 43 n parts h=bif Nat.ble (n * 2) 16777216 && Nat.beq 2 2 then (match fillE (fun i=>some (i * 2,2)) (zerosE [.nils,.nils] n) parts with|some cs=>newSlice 24 cs n n 2 h|none=>.no) else .no:=by kernel_rfl
theorem ik_43 :idxKind Try.prog 43=some (none,2):=by kernel_rfl
theorem un_43 :Try.prog.underlying 43=some (.slice 24):=Try.underlying43
theorem yTz :isAggB Try.prog 51=some false:=by kernel_rfl
theorem yCx :sizeE Try.prog 51=some 1:=by kernel_rfl
theorem zIz (n:Nat) (parts:List (Nat × AV)) (h:H):buildSliceE Try.prog 51 n parts h=bif Nat.ble (n * 16) 16777216 && Nat.beq 16 16 then (match fillE (fun i=>some (i * 16,16)) (zerosE [.int .i64 (0),.int .i64 (0),.int .i64 (0),.int .i64 (0),.int .i64 (0),.int .i64 (0),.int .i64 (0),.int .i64 (0),.int .i64 (0),.int .i64 (0),.int .i64 (0),.int .i64 (0),.int .i64 (0),.int .i64 (0),.int .i64 (0),.int .i64 (0)] n) parts with|some cs=>newSlice 35 cs n n 16 h|none=>.no) else .no:=by kernel_rfl
theorem ik_51 :idxKind Try.prog 51=some (none,16):=by kernel_rfl
theorem un_51 :Try.prog.underlying 51=some (.slice 35):=Try.underlying51
theorem ySv :isAggB Try.prog 55=some false:=by kernel_rfl
theorem yCy :sizeE Try.prog 55=some 1:=by kernel_rfl
theorem ySw :isAggB Try.prog 56=some true:=by kernel_rfl
theorem yCz :sizeE Try.prog 56=some 6:=by kernel_rfl
theorem ySx :isAggB Try.prog 67=some true:=by kernel_rfl
theorem zXz :sizeE Try.prog 67=some 2:=by kernel_rfl
theorem zYv :zeroE Try.prog 67=some (.agg [.nils,.nils]):=by kernel_rfl
theorem zNx :fieldOff Try.prog 67 0=some 0:=by kernel_rfl
theorem yVy (parts:List (Nat × AV)):buildE Try.prog 67 parts=match fillE (fun i=>[(0,2)][i]?) [.nils,.nils] parts with|some cs=>some (.agg cs)|none=>none:=by kernel_rfl
theorem el_67 :El Try.prog 67 2 48 (.agg [.nils,.nils]):=⟨by kernel_rfl,by kernel_rfl,rfl⟩
theorem ySy :isAggB Try.prog 69=some false:=by kernel_rfl
theorem yBv :sizeE Try.prog 69=some 1:=by kernel_rfl
theorem xDx :zeroE Try.prog 69=some (.nilf):=by kernel_rfl
theorem ySz :isAggB Try.prog 70=some false:=by kernel_rfl
theorem yBw :sizeE Try.prog 70=some 1:=by kernel_rfl
theorem yRv :isAggB Try.prog 73=some false:=by kernel_rfl
theorem yBx :sizeE Try.prog 73=some 1:=by kernel_rfl
theorem yRw :isAggB Try.prog 74=some false:=by kernel_rfl
theorem yBy :sizeE Try.prog 74=some 1:=by kernel_rfl
theorem ik_74 :idxKind Try.prog 74=some (none,2):=by kernel_rfl
theorem un_74 :Try.prog.underlying 74=some (.slice 67):=Try.underlying74
theorem yRx :isAggB Try.prog 76=some true:=by kernel_rfl
theorem yBz :sizeE Try.prog 76=some 17:=by kernel_rfl
theorem zYw :zeroE Try.prog 76=some (.agg [.int .i64 (0),.int .i64 (0),.int .i64 (0),.int .i64 (0),.int .i64 (0),.int .i64 (0),.int .i64 (0),.int .i64 (0),.int .i64 (0),.int .i64 (0),.int .i64 (0),.int .i64 (0),.int .i64 (0),.int .i64 (0),.int .i64 (0),.int .i64 (0),.nils]):=by kernel_rfl
theorem zNy :fieldOff Try.prog 76 0=some 0:=by kernel_rfl
theorem zNz :fieldOff Try.prog 76 1=some 16:=by kernel_rfl
theorem yVz (parts:List (Nat × AV)):buildE Try.prog 76 parts=match fillE (fun i=>[(0,16),(16,1)][i]?) [.int .i64 (0),.int .i64 (0),.int .i64 (0),.int .i64 (0),.int .i64 (0),.int .i64 (0),.int .i64 (0),.int .i64 (0),.int .i64 (0),.int .i64 (0),.int .i64 (0),.int .i64 (0),.int .i64 (0),.int .i64 (0),.int .i64 (0),.int .i64 (0),.nils] parts with|some cs=>some (.agg cs)|none=>none:=by kernel_rfl
theorem yRy :isAggB Try.prog 78=some false:=by kernel_rfl
theorem yAv :sizeE Try.prog 78=some 1:=by kernel_rfl
theorem yRz :isAggB Try.prog 87=some true:=by kernel_rfl
theorem yAw :sizeE Try.prog 87=some 4:=by kernel_rfl
theorem zYx :zeroE Try.prog 87=some (.agg [.int .i64 (0),.int .i64 (0),.int .i64 (0),.int .i64 (0)]):=by kernel_rfl
theorem zMv :fieldOff Try.prog 87 0=some 0:=by kernel_rfl
theorem zMw :fieldOff Try.prog 87 1=some 2:=by kernel_rfl
theorem zMx :fieldOff Try.prog 87 2=some 3:=by kernel_rfl
theorem yUv (parts:List (Nat × AV)):buildE Try.prog 87 parts=match fillE (fun i=>[(0,2),(2,1),(3,1)][i]?) [.int .i64 (0),.int .i64 (0),.int .i64 (0),.int .i64 (0)] parts with|some cs=>some (.agg cs)|none=>none:=by kernel_rfl
theorem yQv :isAggB Try.prog 89=some false:=by kernel_rfl
theorem yAx :sizeE Try.prog 89=some 1:=by kernel_rfl
theorem yQw :isAggB Try.prog 96=some false:=by kernel_rfl
theorem yAy :sizeE Try.prog 96=some 1:=by kernel_rfl
theorem zHv (n:Nat) (parts:List (Nat × AV)) (h:H):buildSliceE Try.prog 96 n parts h=bif Nat.ble (n * 2) 16777216 && Nat.beq 2 2 then (match fillE (fun i=>some (i * 2,2)) (zerosE [.int .i64 (0),.int .i64 (0)] n) parts with|some cs=>newSlice 33 cs n n 2 h|none=>.no) else .no:=by kernel_rfl
theorem ik_96 :idxKind Try.prog 96=some (none,2):=by kernel_rfl
theorem un_96 :Try.prog.underlying 96=some (.slice 33):=Try.underlying96
theorem ni_96 :notInt Try.prog 96=true:=by kernel_rfl
theorem yQx :isAggB Try.prog 98=some true:=by kernel_rfl
theorem yAz :sizeE Try.prog 98=some 2:=by kernel_rfl
theorem zYy :zeroE Try.prog 98=some (.agg [.nils,.nils]):=by kernel_rfl
theorem zMy :fieldOff Try.prog 98 0=some 0:=by kernel_rfl
theorem zMz :fieldOff Try.prog 98 1=some 1:=by kernel_rfl
theorem yUw (parts:List (Nat × AV)):buildE Try.prog 98 parts=match fillE (fun i=>[(0,1),(1,1)][i]?) [.nils,.nils] parts with|some cs=>some (.agg cs)|none=>none:=by kernel_rfl
theorem zVz :isAggB Try.prog 101=some false:=by kernel_rfl
theorem zTw :sizeE Try.prog 101=some 1:=by kernel_rfl
theorem zUv :isAggB Try.prog 105=some false:=by kernel_rfl
theorem zTx :sizeE Try.prog 105=some 1:=by kernel_rfl
theorem zFv (n:Nat) (parts:List (Nat × AV)) (h:H):buildSliceE Try.prog 105 n parts h=bif Nat.ble (n * 4) 16777216 && Nat.beq 4 4 then (match fillE (fun i=>some (i * 4,4)) (zerosE [.int .i64 (0),.int .i64 (0),.int .i64 (0),.int .i64 (0)] n) parts with|some cs=>newSlice 87 cs n n 4 h|none=>.no) else .no:=by kernel_rfl
theorem ik_105 :idxKind Try.prog 105=some (none,4):=by kernel_rfl
theorem un_105 :Try.prog.underlying 105=some (.slice 87):=Try.underlying105
theorem zUw :isAggB Try.prog 107=some false:=by kernel_rfl
theorem zTy :sizeE Try.prog 107=some 1:=by kernel_rfl
theorem zUx :isAggB Try.prog 113=some false:=by kernel_rfl
theorem zTz :sizeE Try.prog 113=some 1:=by kernel_rfl
theorem zUy :isAggB Try.prog 114=some false:=by kernel_rfl
theorem zSv :sizeE Try.prog 114=some 1:=by kernel_rfl
theorem zUz :isAggB Try.prog 117=some true:=by kernel_rfl
theorem zSw :sizeE Try.prog 117=some 2:=by kernel_rfl
theorem zSy :zeroE Try.prog 117=some (.agg [.int .i64 (0),.int .i64 (0)]):=by kernel_rfl
theorem zVy (parts:List (Nat × AV)):buildE Try.prog 117 parts=match fillE (fun i=>some (i * 1,1)) [.int .i64 (0),.int .i64 (0)] parts with|some cs=>some (.agg cs)|none=>none:=by kernel_rfl
theorem un_117 :Try.prog.underlying 117=some (.array 2 2):=Try.underlying117
theorem zTv :isAggB Try.prog 119=some false:=by kernel_rfl
theorem zSx :sizeE Try.prog 119=some 1:=by kernel_rfl
theorem yQy :plainB Try.prog 13=true:=by kernel_rfl
theorem yQz :plainB Try.prog 14=true:=by kernel_rfl
theorem yPv :plainB Try.prog 15=true:=by kernel_rfl
theorem yPw :plainB Try.prog 16=true:=by kernel_rfl
theorem yPx :plainB Try.prog 17=true:=by kernel_rfl
theorem yPy :plainB Try.prog 18=true:=by kernel_rfl
theorem yPz :plainB Try.prog 19=true:=by kernel_rfl
theorem yOv :plainB Try.prog 20=true:=by kernel_rfl
theorem yOw :plainB Try.prog 21=true:=by kernel_rfl
theorem yOx :plainB Try.prog 22=true:=by kernel_rfl
theorem yOy :plainB Try.prog 23=true:=by kernel_rfl
theorem yOz :plainB Try.prog 24=true:=by kernel_rfl
theorem yNv :plainB Try.prog 25=true:=by kernel_rfl
theorem yNw :plainB Try.prog 26=true:=by kernel_rfl
theorem yNx :plainB Try.prog 27=true:=by kernel_rfl
theorem yNy :plainB Try.prog 28=true:=by kernel_rfl
theorem yNz :plainB Try.prog 29=true:=by kernel_rfl
theorem yMv :plainB Try.prog 30=true:=by kernel_rfl
theorem yMw :plainB Try.prog 31=true:=by kernel_rfl
theorem yMx :plainB Try.prog 32=true:=by kernel_rfl
theorem yMy :plainB Try.prog 33=true:=by kernel_rfl
theorem yMz :plainB Try.prog 34=true:=by kernel_rfl
theorem yLv :plainB Try.prog 35=true:=by kernel_rfl
theorem yLw :plainB Try.prog 36=true:=by kernel_rfl
theorem yLx :plainB Try.prog 37=true:=by kernel_rfl
theorem yLy :plainB Try.prog 38=true:=by kernel_rfl
theorem yLz :plainB Try.prog 39=true:=by kernel_rfl
theorem yKv :plainB Try.prog 40=true:=by kernel_rfl
theorem yKw :plainB Try.prog 41=true:=by kernel_rfl
theorem yKx :plainB Try.prog 42=true:=by kernel_rfl
theorem yKy :plainB Try.prog 43=true:=by kernel_rfl
theorem yKz :plainB Try.prog 44=true:=by kernel_rfl
theorem yJv :plainB Try.prog 45=true:=by kernel_rfl
theorem yJw :plainB Try.prog 46=true:=by kernel_rfl
theorem yJx :plainB Try.prog 47=true:=by kernel_rfl
theorem yJy :plainB Try.prog 48=true:=by kernel_rfl
theorem yJz :plainB Try.prog 49=true:=by kernel_rfl
theorem yIv :plainB Try.prog 50=true:=by kernel_rfl
theorem yIw :plainB Try.prog 51=true:=by kernel_rfl
theorem yIx :plainB Try.prog 52=true:=by kernel_rfl
theorem yIy :plainB Try.prog 53=true:=by kernel_rfl
theorem yIz :plainB Try.prog 54=true:=by kernel_rfl
theorem yHv :plainB Try.prog 55=true:=by kernel_rfl
theorem yHw :plainB Try.prog 56=true:=by kernel_rfl
theorem yHx :plainB Try.prog 57=true:=by kernel_rfl
theorem yHy :plainB Try.prog 58=true:=by kernel_rfl
theorem yHz :plainB Try.prog 59=true:=by kernel_rfl
theorem yGv :plainB Try.prog 60=true:=by kernel_rfl
theorem yGw :plainB Try.prog 61=true:=by kernel_rfl
theorem yGx :plainB Try.prog 62=true:=by kernel_rfl
theorem zYz :plainB Try.prog 63=true:=by kernel_rfl
theorem zXv :plainB Try.prog 64=true:=by kernel_rfl
theorem yGy :plainB Try.prog 65=true:=by kernel_rfl
theorem yGz :plainB Try.prog 66=true:=by kernel_rfl
theorem yFv :plainB Try.prog 67=true:=by kernel_rfl
theorem yFw :plainB Try.prog 68=true:=by kernel_rfl
theorem yFx :plainB Try.prog 69=true:=by kernel_rfl
theorem yFy :plainB Try.prog 70=true:=by kernel_rfl
theorem yFz :plainB Try.prog 71=true:=by kernel_rfl
theorem yEv :plainB Try.prog 72=true:=by kernel_rfl
theorem yEw :plainB Try.prog 73=true:=by kernel_rfl
theorem yEx :plainB Try.prog 74=true:=by kernel_rfl
theorem yEy :plainB Try.prog 75=true:=by kernel_rfl
theorem zXw :plainB Try.prog 76=true:=by kernel_rfl
theorem yEz :plainB Try.prog 77=true:=by kernel_rfl
theorem yDv :plainB Try.prog 78=true:=by kernel_rfl
theorem zXx :plainB Try.prog 79=true:=by kernel_rfl
end Go.Proofs.Ythaleckfgcgegaa
end

section
namespace Go.Ev
section
variable {P:Program}
end
end Go.Ev
end

section
namespace Go.Ev
section
variable {P:Program}
end
end Go.Ev
end

section
namespace Go.Ev
section
variable {P:Program}
def KeepsG (h:H) (B:Nat) (v:AV) (G G':List AO):Prop:=∀ (j:Nat) (o:AO),G[j]? = some o→(∀ a b c,v ≠ .sl (nx h (B+j)) 0 a b c)→G'[j]? = some o
theorem Grow.keep {h:H} {L0 G G':List AO} {u v:AV} {sz e len:Nat} {cs:List AV} (g:Grow h L0 G u sz e len cs) (K:KeepsG h L0.length v G G') (hd : ∀ j a b c,u = .sl (nx h (L0.length+j)) 0 len none sz→v ≠ .sl (nx h (L0.length+j)) 0 a b c):Grow h L0 G' u sz e len cs:=by
  obtain ⟨hl,⟨rfl,rfl⟩|⟨idx,rfl,hg⟩⟩:=g
  · exact ⟨hl,.inl ⟨rfl,rfl⟩⟩
  · exact ⟨hl,.inr ⟨idx,rfl,K idx _ hg fun a b c=>hd idx a b c rfl⟩⟩
theorem Grow.apart {h:H} {L0 G:List AO} {v:AV} {sz e len:Nat} {cs:List AV} (g:Grow h L0 G v sz e len cs) {j:Nat} {m':M AV} {e':TypeId} (hj:G[j]? = some (AO.cells m' e')) (he:e'≠e) : ∀ a b c,v ≠ .sl (nx h (L0.length+j)) 0 a b c:=by
  intro a b c hv
  obtain ⟨hl,⟨rfl,rfl⟩|⟨idx,rfl,hg⟩⟩:=g
  · cases hv
  · injection hv with h1
    have h2:=xNv h1
    have:idx=j:=by omega
    subst this
    rw [hj] at hg
    cases hg
    exact he rfl
end
end Go.Ev
end

section
namespace Go.Proofs.Ythaleckfgcgegaa
open Go.Ev
set_option maxRecDepth 100000
set_option linter.unusedSimpArgs false
set_option linter.unusedVariables false
set_option maxHeartbeats 2000000
theorem tEvD1 :type_of% (And.intro (And.intro (And.intro (And.intro (And.intro (And.intro (And.intro (@yWz) (@yVv)) (And.intro (@yVw) (And.intro (@yVx) (@yVy)))) (And.intro (And.intro (@yVz) (And.intro (@yUv) (@yUw))) (And.intro (@zVy) (And.intro (@ia_2) (@sz_2))))) (And.intro (And.intro (And.intro (@ia_3) (@sz_3)) (And.intro (@ia_4) (And.intro (@sz_4) (@yUx)))) (And.intro (And.intro (@yDw) (And.intro (@yUy) (@yDx))) (And.intro (@yUz) (And.intro (@yDy) (@yTv)))))) (And.intro (And.intro (And.intro (And.intro (@zWw) (@yTw)) (And.intro (@yDz) (And.intro (@yTx) (@yCv)))) (And.intro (And.intro (@yTy) (And.intro (@yCw) (@yTz))) (And.intro (@yCx) (And.intro (@ySv) (@yCy))))) (And.intro (And.intro (And.intro (@ySw) (@yCz)) (And.intro (@ySx) (And.intro (@zXz) (@ySy)))) (And.intro (And.intro (@yBv) (And.intro (@ySz) (@yBw))) (And.intro (@yRv) (And.intro (@yBx) (@yRw))))))) (And.intro (And.intro (And.intro (And.intro (And.intro (@yBy) (@yRx)) (And.intro (@yBz) (And.intro (@yRy) (@yAv)))) (And.intro (And.intro (@yRz) (And.intro (@yAw) (@yQv))) (And.intro (@yAx) (And.intro (@yQw) (@yAy))))) (And.intro (And.intro (And.intro (@yQx) (@yAz)) (And.intro (@zVz) (And.intro (@zTw) (@zUv)))) (And.intro (And.intro (@zTx) (And.intro (@zUw) (@zTy))) (And.intro (@zUx) (And.intro (@zTz) (@zUy)))))) (And.intro (And.intro (And.intro (And.intro (@zSv) (@zUz)) (And.intro (@zSw) (And.intro (@zTv) (@zSx)))) (And.intro (And.intro (@ze_2) (And.intro (@ze_3) (@ze_4))) (And.intro (@zZv) (And.intro (@zZw) (@zZx))))) (And.intro (And.intro (And.intro (@zZy) (And.intro (@zZz) (@zYv))) (And.intro (@zYw) (And.intro (@zYx) (@zYy)))) (And.intro (And.intro (@zSy) (And.intro (@zRx) (@zRy))) (And.intro (@zRz) (And.intro (@zQv) (@zQw)))))))) (And.intro (And.intro (And.intro (And.intro (And.intro (And.intro (@zQx) (@zQy)) (And.intro (@zQz) (And.intro (@zPv) (@zPw)))) (And.intro (And.intro (@zPx) (And.intro (@zPy) (@zPz))) (And.intro (@zOv) (And.intro (@zOw) (@zOx))))) (And.intro (And.intro (And.intro (@zOy) (@zOz)) (And.intro (@zNv) (And.intro (@zNw) (@zNx)))) (And.intro (And.intro (@zNy) (And.intro (@zNz) (@zMv))) (And.intro (@zMw) (And.intro (@zMx) (@zMy)))))) (And.intro (And.intro (And.intro (And.intro (@zMz) (@yQy)) (And.intro (@yQz) (And.intro (@yPv) (@yPw)))) (And.intro (And.intro (@yPx) (And.intro (@yPy) (@yPz))) (And.intro (@yOv) (And.intro (@yOw) (@yOx))))) (And.intro (And.intro (And.intro (@yOy) (And.intro (@yOz) (@yNv))) (And.intro (@yNw) (And.intro (@yNx) (@yNy)))) (And.intro (And.intro (@yNz) (And.intro (@yMv) (@yMw))) (And.intro (@yMx) (And.intro (@yMy) (@yMz))))))) (And.intro (And.intro (And.intro (And.intro (And.intro (@yLv) (@yLw)) (And.intro (@yLx) (And.intro (@yLy) (@yLz)))) (And.intro (And.intro (@yKv) (And.intro (@yKw) (@yKx))) (And.intro (@yKy) (And.intro (@yKz) (@yJv))))) (And.intro (And.intro (And.intro (@yJw) (@yJx)) (And.intro (@yJy) (And.intro (@yJz) (@yIv)))) (And.intro (And.intro (@yIw) (And.intro (@yIx) (@yIy))) (And.intro (@yIz) (And.intro (@yHv) (@yHw)))))) (And.intro (And.intro (And.intro (And.intro (@yHx) (@yHy)) (And.intro (@yHz) (And.intro (@yGv) (@yGw)))) (And.intro (And.intro (@yGx) (And.intro (@zYz) (@zXv))) (And.intro (@yGy) (And.intro (@yGz) (@yFv))))) (And.intro (And.intro (And.intro (@yFw) (And.intro (@yFx) (@yFy))) (And.intro (@yFz) (And.intro (@yEv) (@yEw)))) (And.intro (And.intro (@yEx) (And.intro (@yEy) (@zXw))) (And.intro (@yEz) (And.intro (@yDv) (@zXx))))))))):=And.intro (And.intro (And.intro (And.intro (And.intro (And.intro (And.intro (@yWz) (@yVv)) (And.intro (@yVw) (And.intro (@yVx) (@yVy)))) (And.intro (And.intro (@yVz) (And.intro (@yUv) (@yUw))) (And.intro (@zVy) (And.intro (@ia_2) (@sz_2))))) (And.intro (And.intro (And.intro (@ia_3) (@sz_3)) (And.intro (@ia_4) (And.intro (@sz_4) (@yUx)))) (And.intro (And.intro (@yDw) (And.intro (@yUy) (@yDx))) (And.intro (@yUz) (And.intro (@yDy) (@yTv)))))) (And.intro (And.intro (And.intro (And.intro (@zWw) (@yTw)) (And.intro (@yDz) (And.intro (@yTx) (@yCv)))) (And.intro (And.intro (@yTy) (And.intro (@yCw) (@yTz))) (And.intro (@yCx) (And.intro (@ySv) (@yCy))))) (And.intro (And.intro (And.intro (@ySw) (@yCz)) (And.intro (@ySx) (And.intro (@zXz) (@ySy)))) (And.intro (And.intro (@yBv) (And.intro (@ySz) (@yBw))) (And.intro (@yRv) (And.intro (@yBx) (@yRw))))))) (And.intro (And.intro (And.intro (And.intro (And.intro (@yBy) (@yRx)) (And.intro (@yBz) (And.intro (@yRy) (@yAv)))) (And.intro (And.intro (@yRz) (And.intro (@yAw) (@yQv))) (And.intro (@yAx) (And.intro (@yQw) (@yAy))))) (And.intro (And.intro (And.intro (@yQx) (@yAz)) (And.intro (@zVz) (And.intro (@zTw) (@zUv)))) (And.intro (And.intro (@zTx) (And.intro (@zUw) (@zTy))) (And.intro (@zUx) (And.intro (@zTz) (@zUy)))))) (And.intro (And.intro (And.intro (And.intro (@zSv) (@zUz)) (And.intro (@zSw) (And.intro (@zTv) (@zSx)))) (And.intro (And.intro (@ze_2) (And.intro (@ze_3) (@ze_4))) (And.intro (@zZv) (And.intro (@zZw) (@zZx))))) (And.intro (And.intro (And.intro (@zZy) (And.intro (@zZz) (@zYv))) (And.intro (@zYw) (And.intro (@zYx) (@zYy)))) (And.intro (And.intro (@zSy) (And.intro (@zRx) (@zRy))) (And.intro (@zRz) (And.intro (@zQv) (@zQw)))))))) (And.intro (And.intro (And.intro (And.intro (And.intro (And.intro (@zQx) (@zQy)) (And.intro (@zQz) (And.intro (@zPv) (@zPw)))) (And.intro (And.intro (@zPx) (And.intro (@zPy) (@zPz))) (And.intro (@zOv) (And.intro (@zOw) (@zOx))))) (And.intro (And.intro (And.intro (@zOy) (@zOz)) (And.intro (@zNv) (And.intro (@zNw) (@zNx)))) (And.intro (And.intro (@zNy) (And.intro (@zNz) (@zMv))) (And.intro (@zMw) (And.intro (@zMx) (@zMy)))))) (And.intro (And.intro (And.intro (And.intro (@zMz) (@yQy)) (And.intro (@yQz) (And.intro (@yPv) (@yPw)))) (And.intro (And.intro (@yPx) (And.intro (@yPy) (@yPz))) (And.intro (@yOv) (And.intro (@yOw) (@yOx))))) (And.intro (And.intro (And.intro (@yOy) (And.intro (@yOz) (@yNv))) (And.intro (@yNw) (And.intro (@yNx) (@yNy)))) (And.intro (And.intro (@yNz) (And.intro (@yMv) (@yMw))) (And.intro (@yMx) (And.intro (@yMy) (@yMz))))))) (And.intro (And.intro (And.intro (And.intro (And.intro (@yLv) (@yLw)) (And.intro (@yLx) (And.intro (@yLy) (@yLz)))) (And.intro (And.intro (@yKv) (And.intro (@yKw) (@yKx))) (And.intro (@yKy) (And.intro (@yKz) (@yJv))))) (And.intro (And.intro (And.intro (@yJw) (@yJx)) (And.intro (@yJy) (And.intro (@yJz) (@yIv)))) (And.intro (And.intro (@yIw) (And.intro (@yIx) (@yIy))) (And.intro (@yIz) (And.intro (@yHv) (@yHw)))))) (And.intro (And.intro (And.intro (And.intro (@yHx) (@yHy)) (And.intro (@yHz) (And.intro (@yGv) (@yGw)))) (And.intro (And.intro (@yGx) (And.intro (@zYz) (@zXv))) (And.intro (@yGy) (And.intro (@yGz) (@yFv))))) (And.intro (And.intro (And.intro (@yFw) (And.intro (@yFx) (@yFy))) (And.intro (@yFz) (And.intro (@yEv) (@yEw)))) (And.intro (And.intro (@yEx) (And.intro (@yEy) (@zXw))) (And.intro (@yEz) (And.intro (@yDv) (@zXx))))))))
abbrev ii (n:Int):AV:=.int .i64 n
structure Te where
  (sp lo we al f0 f1 t0 t1 s0 s1 o0 o1 b0 b1 r0 r1:Int)
structure Tr where
  (f t s o b r:Int)
abbrev i62 (n:Int):Prop:=-4000000000000000000≤n∧n≤4000000000000000000

theorem one (n:Int) (h:H) (wf:Wf h):(om Try.prog KK).call (.fn 52 [ii n]) h = .ok (.agg [ii n,ii n]) h:=by
  refine zWy (zLx (fn:=Try.f52) Try.func52 rfl rfl rfl rfl rfl ?_)
  simp only [zLy]
  (repeat' (first
  | (with_reducible first|refine zJw ?_|refine zHz ?_|refine zEv ?_|refine zEw ?_|refine zFz ?_|refine zJv ?_|refine zHy ?_|refine zBv ?_|refine zDx ?_|refine zCz ?_|refine zCw ?_|refine zEy ?_|refine zCv ?_|refine zCy ?_|refine zBy ?_|refine zDv ?_|refine zEz ?_|refine zAw ?_|refine zBz ?_)
  | refine zDz ?_|refine zEx rfl ?_|refine zJy ?_|refine zJx ?_
  | ((first|refine zGv rfl rfl rfl rfl rfl fun K_ hK_=>?_|refine zGw rfl rfl rfl rfl rfl fun K_ hK_=>?_);simp only [zAz,zDy,zGx,↓reduceIte,reduceCtorEq,Nat.reduceEqDiff,Bool.not_true,Bool.not_false];refine hK_ _ ?_;clear hK_ K_)
  | refine zDw (by decide) ?_
  | ((try first|refine zKy rfl rfl rfl ?_|refine zJz rfl rfl ?_|refine zKx rfl rfl rfl ?_|refine zIv rfl rfl ?_);(refine zIw fun Q_ hQ_=>?_;simp (disch:=first|omega|(simp only [List.length_cons,List.length_nil,List.length_append];omega)) only [bb,bp,zLy,↓reduceIte,reduceCtorEq,Nat.reduceEqDiff,Nat.reduceLT,Nat.reduceLeDiff,Nat.reduceAdd,Nat.reduceMul,Nat.reduceSub,Nat.reduceBEq,Int.reduceToNat,cond_true,cond_false,eq_self,beq_self_eq_true,zFx wf,zGy wf,zBw wf,zFy wf,zAy wf,zAx,tEvD1,zIx,zIy,zIz,zHv,zFv,zAv wf];first|(refine zCx (Q:=Q_) (fun hp_=>?_) (fun hp_=>?_) <;> first|(exfalso;omega)|(refine hQ_ _ _ ?_;clear hQ_ Q_))|(refine zBx (Q:=Q_) (fun hp_=>?_) (fun hp_=>?_) <;> first|(exfalso;omega)|(refine hQ_ _ _ ?_;clear hQ_ Q_))|(refine hQ_ _ _ ?_;clear hQ_ Q_)))
  | (refine zHx fun K_ hK_=>?_;simp (disch:=omega) only [zGz,zAz,zHw,↓reduceIte,reduceCtorEq,Nat.reduceEqDiff,Nat.reduceLT];refine hK_ _ ?_;clear hK_ K_)))
  refine zKz _ _ rfl (retc0 (by decide) (by simp (disch:=first|omega|(simp only [List.length_cons,List.length_nil,List.length_append];omega)) only [bb,bp,zLy,↓reduceIte,reduceCtorEq,Nat.reduceEqDiff,Nat.reduceLT,Nat.reduceLeDiff,Nat.reduceAdd,Nat.reduceMul,Nat.reduceSub,Nat.reduceBEq,Int.reduceToNat,cond_true,cond_false,eq_self,beq_self_eq_true,zBw wf,tEvD1,zIx,zIy,zIz,zHv,zFv,zAv wf];rfl)) ?_
  refine zKw rfl (by omega) ?_
  exact ⟨rfl,rfl⟩

theorem between (n a b:Int) (h:H) (wf:Wf h):(om Try.prog KK).call (.fn 42 [ii n,ii a,ii b]) h = .ok (.bool (decide (a≤n∧n≤b))) h:=by
  refine zWy (zLx (fn:=Try.f42) Try.func42 rfl rfl rfl rfl rfl ?_)
  simp only [zLy]
  (repeat' (first
  | (with_reducible first|refine zJw ?_|refine zHz ?_|refine zEv ?_|refine zEw ?_|refine zFz ?_|refine zJv ?_|refine zHy ?_|refine zBv ?_|refine zDx ?_|refine zCz ?_|refine zCw ?_|refine zEy ?_|refine zCv ?_|refine zCy ?_|refine zBy ?_|refine zDv ?_|refine zEz ?_|refine zAw ?_|refine zBz ?_)
  | refine zDz ?_|refine zEx rfl ?_|refine zJy ?_|refine zJx ?_
  | ((first|refine zGv rfl rfl rfl rfl rfl fun K_ hK_=>?_|refine zGw rfl rfl rfl rfl rfl fun K_ hK_=>?_);simp only [zAz,zDy,zGx,↓reduceIte,reduceCtorEq,Nat.reduceEqDiff,Bool.not_true,Bool.not_false];refine hK_ _ ?_;clear hK_ K_)
  | refine zDw (by decide) ?_
  | ((try first|refine zKy rfl rfl rfl ?_|refine zJz rfl rfl ?_|refine zKx rfl rfl rfl ?_|refine zIv rfl rfl ?_);(refine zIw fun Q_ hQ_=>?_;simp (disch:=first|omega|(simp only [List.length_cons,List.length_nil,List.length_append];omega)) only [bb,bp,zLy,↓reduceIte,reduceCtorEq,Nat.reduceEqDiff,Nat.reduceLT,Nat.reduceLeDiff,Nat.reduceAdd,Nat.reduceMul,Nat.reduceSub,Nat.reduceBEq,Int.reduceToNat,cond_true,cond_false,eq_self,beq_self_eq_true,zFx wf,zGy wf,zBw wf,zFy wf,zAy wf,zAx,tEvD1,zIx,zIy,zIz,zHv,zFv,zAv wf];first|(refine zCx (Q:=Q_) (fun hp_=>?_) (fun hp_=>?_) <;> first|(exfalso;omega)|(refine hQ_ _ _ ?_;clear hQ_ Q_))|(refine zBx (Q:=Q_) (fun hp_=>?_) (fun hp_=>?_) <;> first|(exfalso;omega)|(refine hQ_ _ _ ?_;clear hQ_ Q_))|(refine hQ_ _ _ ?_;clear hQ_ Q_)))
  | (refine zHx fun K_ hK_=>?_;simp (disch:=omega) only [zGz,zAz,zHw,↓reduceIte,reduceCtorEq,Nat.reduceEqDiff,Nat.reduceLT];refine hK_ _ ?_;clear hK_ K_)))
  all_goals (refine zKz _ _ rfl (ret1 (by decide)) ?_;simp only [zAz,↓reduceIte,reduceCtorEq,Nat.reduceEqDiff];refine zKw rfl (by omega) ?_)
  all_goals exact ⟨by simp [*],rfl⟩

theorem within (lo hi a b:Int) (h:H) (wf:Wf h):(om Try.prog KK).call (.fn 53 [.agg [ii lo,ii hi],ii a,ii b]) h = .ok (.bool (decide (a≤lo∧lo≤hi∧hi≤b))) h:=by
  refine zWy (zLx (fn:=Try.f53) Try.func53 rfl rfl rfl rfl rfl ?_)
  simp only [zLy]
  (repeat' (first
  | (with_reducible first|refine zJw ?_|refine zHz ?_|refine zEv ?_|refine zEw ?_|refine zFz ?_|refine zJv ?_|refine zHy ?_|refine zBv ?_|refine zDx ?_|refine zCz ?_|refine zCw ?_|refine zEy ?_|refine zCv ?_|refine zCy ?_|refine zBy ?_|refine zDv ?_|refine zEz ?_|refine zAw ?_|refine zBz ?_)
  | refine zDz ?_|refine zEx rfl ?_|refine zJy ?_|refine zJx ?_
  | ((first|refine zGv rfl rfl rfl rfl rfl fun K_ hK_=>?_|refine zGw rfl rfl rfl rfl rfl fun K_ hK_=>?_);simp only [zAz,zDy,zGx,↓reduceIte,reduceCtorEq,Nat.reduceEqDiff,Bool.not_true,Bool.not_false];refine hK_ _ ?_;clear hK_ K_)
  | refine zDw (by decide) ?_
  | ((try first|refine zKy rfl rfl rfl ?_|refine zJz rfl rfl ?_|refine zKx rfl rfl rfl ?_|refine zIv rfl rfl ?_);(refine zIw fun Q_ hQ_=>?_;simp (disch:=first|omega|(simp only [List.length_cons,List.length_nil,List.length_append];omega)) only [bb,bp,zLy,↓reduceIte,reduceCtorEq,Nat.reduceEqDiff,Nat.reduceLT,Nat.reduceLeDiff,Nat.reduceAdd,Nat.reduceMul,Nat.reduceSub,Nat.reduceBEq,Int.reduceToNat,cond_true,cond_false,eq_self,beq_self_eq_true,zFx wf,zGy wf,zBw wf,zFy wf,zAy wf,zAx,tEvD1,zIx,zIy,zIz,zHv,zFv,zAv wf];first|(refine zCx (Q:=Q_) (fun hp_=>?_) (fun hp_=>?_) <;> first|(exfalso;omega)|(refine hQ_ _ _ ?_;clear hQ_ Q_))|(refine zBx (Q:=Q_) (fun hp_=>?_) (fun hp_=>?_) <;> first|(exfalso;omega)|(refine hQ_ _ _ ?_;clear hQ_ Q_))|(refine hQ_ _ _ ?_;clear hQ_ Q_)))
  | (refine zHx fun K_ hK_=>?_;simp (disch:=omega) only [zGz,zAz,zHw,↓reduceIte,reduceCtorEq,Nat.reduceEqDiff,Nat.reduceLT];refine hK_ _ ?_;clear hK_ K_)))
  all_goals (refine zKz _ _ rfl (ret1 (by decide)) ?_;simp only [zAz,↓reduceIte,reduceCtorEq,Nat.reduceEqDiff];refine zKw rfl (by omega) ?_)
  all_goals exact ⟨by simp [*],rfl⟩

theorem into (lo hi n:Int) (h:H) (wf:Wf h):(om Try.prog KK).call (.fn 67 [.agg [ii lo,ii hi],ii n]) h = .ok (ii (min (max n lo) hi)) h:=by
  refine zWy (zLx (fn:=Try.f67) Try.func67 rfl rfl rfl rfl rfl ?_)
  simp only [zLy]
  (repeat' (first
  | (with_reducible first|refine zJw ?_|refine zHz ?_|refine zEv ?_|refine zEw ?_|refine zFz ?_|refine zJv ?_|refine zHy ?_|refine zBv ?_|refine zDx ?_|refine zCz ?_|refine zCw ?_|refine zEy ?_|refine zCv ?_|refine zCy ?_|refine zBy ?_|refine zDv ?_|refine zEz ?_|refine zAw ?_|refine zBz ?_)
  | refine zDz ?_|refine zEx rfl ?_|refine zJy ?_|refine zJx ?_
  | ((first|refine zGv rfl rfl rfl rfl rfl fun K_ hK_=>?_|refine zGw rfl rfl rfl rfl rfl fun K_ hK_=>?_);simp only [zAz,zDy,zGx,↓reduceIte,reduceCtorEq,Nat.reduceEqDiff,Bool.not_true,Bool.not_false];refine hK_ _ ?_;clear hK_ K_)
  | refine zDw (by decide) ?_
  | ((try first|refine zKy rfl rfl rfl ?_|refine zJz rfl rfl ?_|refine zKx rfl rfl rfl ?_|refine zIv rfl rfl ?_);(refine zIw fun Q_ hQ_=>?_;simp (disch:=first|omega|(simp only [List.length_cons,List.length_nil,List.length_append];omega)) only [bb,bp,zLy,↓reduceIte,reduceCtorEq,Nat.reduceEqDiff,Nat.reduceLT,Nat.reduceLeDiff,Nat.reduceAdd,Nat.reduceMul,Nat.reduceSub,Nat.reduceBEq,Int.reduceToNat,cond_true,cond_false,eq_self,beq_self_eq_true,bi_max,bi_min,zFx wf,zGy wf,zBw wf,zFy wf,zAy wf,zAx,tEvD1,zIx,zIy,zIz,zHv,zFv,zAv wf];first|(refine zCx (Q:=Q_) (fun hp_=>?_) (fun hp_=>?_) <;> first|(exfalso;omega)|(refine hQ_ _ _ ?_;clear hQ_ Q_))|(refine zBx (Q:=Q_) (fun hp_=>?_) (fun hp_=>?_) <;> first|(exfalso;omega)|(refine hQ_ _ _ ?_;clear hQ_ Q_))|(refine hQ_ _ _ ?_;clear hQ_ Q_)))
  | (refine zHx fun K_ hK_=>?_;simp (disch:=omega) only [zGz,zAz,zHw,↓reduceIte,reduceCtorEq,Nat.reduceEqDiff,Nat.reduceLT];refine hK_ _ ?_;clear hK_ K_)))
  (refine zKz _ _ rfl (ret1 (by decide)) ?_;simp only [zAz,↓reduceIte,reduceCtorEq,Nat.reduceEqDiff];refine zKw rfl (by omega) ?_)
  exact ⟨rfl,rfl⟩

theorem ends (lo hi:Int) (h:H) (wf:Wf h):(om Try.prog KK).call (.fn 77 [.agg [ii lo,ii hi]]) h = .ok (.agg [ii lo,ii hi]) h:=by
  refine zWy (zLx (fn:=Try.f77) Try.func77 rfl rfl rfl rfl rfl ?_)
  simp only [zLy]
  (repeat' (first
  | (with_reducible first|refine zJw ?_|refine zHz ?_|refine zEv ?_|refine zEw ?_|refine zFz ?_|refine zJv ?_|refine zHy ?_|refine zBv ?_|refine zDx ?_|refine zCz ?_|refine zCw ?_|refine zEy ?_|refine zCv ?_|refine zCy ?_|refine zBy ?_|refine zDv ?_|refine zEz ?_|refine zAw ?_|refine zBz ?_)
  | refine zDz ?_|refine zEx rfl ?_|refine zJy ?_|refine zJx ?_
  | ((first|refine zGv rfl rfl rfl rfl rfl fun K_ hK_=>?_|refine zGw rfl rfl rfl rfl rfl fun K_ hK_=>?_);simp only [zAz,zDy,zGx,↓reduceIte,reduceCtorEq,Nat.reduceEqDiff,Bool.not_true,Bool.not_false];refine hK_ _ ?_;clear hK_ K_)
  | refine zDw (by decide) ?_
  | ((try first|refine zKy rfl rfl rfl ?_|refine zJz rfl rfl ?_|refine zKx rfl rfl rfl ?_|refine zIv rfl rfl ?_);(refine zIw fun Q_ hQ_=>?_;simp (disch:=first|omega|(simp only [List.length_cons,List.length_nil,List.length_append];omega)) only [bb,bp,zLy,↓reduceIte,reduceCtorEq,Nat.reduceEqDiff,Nat.reduceLT,Nat.reduceLeDiff,Nat.reduceAdd,Nat.reduceMul,Nat.reduceSub,Nat.reduceBEq,Int.reduceToNat,cond_true,cond_false,eq_self,beq_self_eq_true,zFx wf,zGy wf,zBw wf,zFy wf,zAy wf,zAx,tEvD1,zIx,zIy,zIz,zHv,zFv,zAv wf];first|(refine zCx (Q:=Q_) (fun hp_=>?_) (fun hp_=>?_) <;> first|(exfalso;omega)|(refine hQ_ _ _ ?_;clear hQ_ Q_))|(refine zBx (Q:=Q_) (fun hp_=>?_) (fun hp_=>?_) <;> first|(exfalso;omega)|(refine hQ_ _ _ ?_;clear hQ_ Q_))|(refine hQ_ _ _ ?_;clear hQ_ Q_)))
  | (refine zHx fun K_ hK_=>?_;simp (disch:=omega) only [zGz,zAz,zHw,↓reduceIte,reduceCtorEq,Nat.reduceEqDiff,Nat.reduceLT];refine hK_ _ ?_;clear hK_ K_)))
  refine zKz _ _ rfl (retc0 (by decide) (by simp (disch:=first|omega|(simp only [List.length_cons,List.length_nil,List.length_append];omega)) only [bb,bp,zLy,↓reduceIte,reduceCtorEq,Nat.reduceEqDiff,Nat.reduceLT,Nat.reduceLeDiff,Nat.reduceAdd,Nat.reduceMul,Nat.reduceSub,Nat.reduceBEq,Int.reduceToNat,cond_true,cond_false,eq_self,beq_self_eq_true,zBw wf,tEvD1,zIx,zIy,zIz,zHv,zFv,zAv wf];rfl)) ?_
  refine zKw rfl (by omega) ?_
  exact ⟨rfl,rfl⟩
end Go.Proofs.Ythaleckfgcgegaa
end

section
namespace Go.Proofs.Ythaleckfgcgegaa
open Go.Ev
set_option maxRecDepth 100000
set_option linter.unusedSimpArgs false
set_option linter.unusedVariables false
set_option maxHeartbeats 2000000
theorem tEvD2 :type_of% (And.intro (And.intro (And.intro (And.intro (And.intro (And.intro (And.intro (@yWz) (@yVv)) (And.intro (@yVw) (And.intro (@yVx) (@yVy)))) (And.intro (And.intro (@yVz) (And.intro (@yUv) (@yUw))) (And.intro (@zVy) (And.intro (@ia_2) (@sz_2))))) (And.intro (And.intro (And.intro (@ia_3) (@sz_3)) (And.intro (@ia_4) (And.intro (@sz_4) (@yUx)))) (And.intro (And.intro (@yDw) (And.intro (@yUy) (@yDx))) (And.intro (@yUz) (And.intro (@yDy) (@yTv)))))) (And.intro (And.intro (And.intro (And.intro (@zWw) (@yTw)) (And.intro (@yDz) (And.intro (@yTx) (@yCv)))) (And.intro (And.intro (@yTy) (And.intro (@yCw) (@yTz))) (And.intro (@yCx) (And.intro (@ySv) (@yCy))))) (And.intro (And.intro (And.intro (@ySw) (@yCz)) (And.intro (@ySx) (And.intro (@zXz) (@ySy)))) (And.intro (And.intro (@yBv) (And.intro (@ySz) (@yBw))) (And.intro (@yRv) (And.intro (@yBx) (@yRw))))))) (And.intro (And.intro (And.intro (And.intro (And.intro (@yBy) (@yRx)) (And.intro (@yBz) (And.intro (@yRy) (@yAv)))) (And.intro (And.intro (@yRz) (And.intro (@yAw) (@yQv))) (And.intro (@yAx) (And.intro (@yQw) (@yAy))))) (And.intro (And.intro (And.intro (@yQx) (@yAz)) (And.intro (@zVz) (And.intro (@zTw) (@zUv)))) (And.intro (And.intro (@zTx) (And.intro (@zUw) (@zTy))) (And.intro (@zUx) (And.intro (@zTz) (@zUy)))))) (And.intro (And.intro (And.intro (And.intro (@zSv) (@zUz)) (And.intro (@zSw) (And.intro (@zTv) (@zSx)))) (And.intro (And.intro (@ze_2) (And.intro (@ze_3) (@ze_4))) (And.intro (@zZv) (And.intro (@zZw) (@zZx))))) (And.intro (And.intro (And.intro (@zZy) (And.intro (@zZz) (@zYv))) (And.intro (@zYw) (And.intro (@zYx) (@zYy)))) (And.intro (And.intro (@zSy) (And.intro (@zRx) (@zRy))) (And.intro (@zRz) (And.intro (@zQv) (@zQw)))))))) (And.intro (And.intro (And.intro (And.intro (And.intro (And.intro (@zQx) (@zQy)) (And.intro (@zQz) (And.intro (@zPv) (@zPw)))) (And.intro (And.intro (@zPx) (And.intro (@zPy) (@zPz))) (And.intro (@zOv) (And.intro (@zOw) (@zOx))))) (And.intro (And.intro (And.intro (@zOy) (@zOz)) (And.intro (@zNv) (And.intro (@zNw) (@zNx)))) (And.intro (And.intro (@zNy) (And.intro (@zNz) (@zMv))) (And.intro (@zMw) (And.intro (@zMx) (@zMy)))))) (And.intro (And.intro (And.intro (And.intro (@zMz) (@yQy)) (And.intro (@yQz) (And.intro (@yPv) (@yPw)))) (And.intro (And.intro (@yPx) (And.intro (@yPy) (@yPz))) (And.intro (@yOv) (And.intro (@yOw) (@yOx))))) (And.intro (And.intro (And.intro (@yOy) (And.intro (@yOz) (@yNv))) (And.intro (@yNw) (And.intro (@yNx) (@yNy)))) (And.intro (And.intro (@yNz) (And.intro (@yMv) (@yMw))) (And.intro (@yMx) (And.intro (@yMy) (@yMz))))))) (And.intro (And.intro (And.intro (And.intro (And.intro (@yLv) (@yLw)) (And.intro (@yLx) (And.intro (@yLy) (@yLz)))) (And.intro (And.intro (@yKv) (And.intro (@yKw) (@yKx))) (And.intro (@yKy) (And.intro (@yKz) (@yJv))))) (And.intro (And.intro (And.intro (@yJw) (@yJx)) (And.intro (@yJy) (And.intro (@yJz) (@yIv)))) (And.intro (And.intro (@yIw) (And.intro (@yIx) (@yIy))) (And.intro (@yIz) (And.intro (@yHv) (@yHw)))))) (And.intro (And.intro (And.intro (And.intro (@yHx) (@yHy)) (And.intro (@yHz) (And.intro (@yGv) (@yGw)))) (And.intro (And.intro (@yGx) (And.intro (@zYz) (@zXv))) (And.intro (@yGy) (And.intro (@yGz) (@yFv))))) (And.intro (And.intro (And.intro (@yFw) (And.intro (@yFx) (@yFy))) (And.intro (@yFz) (And.intro (@yEv) (@yEw)))) (And.intro (And.intro (@yEx) (And.intro (@yEy) (@zXw))) (And.intro (@yEz) (And.intro (@yDv) (@zXx))))))))):=And.intro (And.intro (And.intro (And.intro (And.intro (And.intro (And.intro (@yWz) (@yVv)) (And.intro (@yVw) (And.intro (@yVx) (@yVy)))) (And.intro (And.intro (@yVz) (And.intro (@yUv) (@yUw))) (And.intro (@zVy) (And.intro (@ia_2) (@sz_2))))) (And.intro (And.intro (And.intro (@ia_3) (@sz_3)) (And.intro (@ia_4) (And.intro (@sz_4) (@yUx)))) (And.intro (And.intro (@yDw) (And.intro (@yUy) (@yDx))) (And.intro (@yUz) (And.intro (@yDy) (@yTv)))))) (And.intro (And.intro (And.intro (And.intro (@zWw) (@yTw)) (And.intro (@yDz) (And.intro (@yTx) (@yCv)))) (And.intro (And.intro (@yTy) (And.intro (@yCw) (@yTz))) (And.intro (@yCx) (And.intro (@ySv) (@yCy))))) (And.intro (And.intro (And.intro (@ySw) (@yCz)) (And.intro (@ySx) (And.intro (@zXz) (@ySy)))) (And.intro (And.intro (@yBv) (And.intro (@ySz) (@yBw))) (And.intro (@yRv) (And.intro (@yBx) (@yRw))))))) (And.intro (And.intro (And.intro (And.intro (And.intro (@yBy) (@yRx)) (And.intro (@yBz) (And.intro (@yRy) (@yAv)))) (And.intro (And.intro (@yRz) (And.intro (@yAw) (@yQv))) (And.intro (@yAx) (And.intro (@yQw) (@yAy))))) (And.intro (And.intro (And.intro (@yQx) (@yAz)) (And.intro (@zVz) (And.intro (@zTw) (@zUv)))) (And.intro (And.intro (@zTx) (And.intro (@zUw) (@zTy))) (And.intro (@zUx) (And.intro (@zTz) (@zUy)))))) (And.intro (And.intro (And.intro (And.intro (@zSv) (@zUz)) (And.intro (@zSw) (And.intro (@zTv) (@zSx)))) (And.intro (And.intro (@ze_2) (And.intro (@ze_3) (@ze_4))) (And.intro (@zZv) (And.intro (@zZw) (@zZx))))) (And.intro (And.intro (And.intro (@zZy) (And.intro (@zZz) (@zYv))) (And.intro (@zYw) (And.intro (@zYx) (@zYy)))) (And.intro (And.intro (@zSy) (And.intro (@zRx) (@zRy))) (And.intro (@zRz) (And.intro (@zQv) (@zQw)))))))) (And.intro (And.intro (And.intro (And.intro (And.intro (And.intro (@zQx) (@zQy)) (And.intro (@zQz) (And.intro (@zPv) (@zPw)))) (And.intro (And.intro (@zPx) (And.intro (@zPy) (@zPz))) (And.intro (@zOv) (And.intro (@zOw) (@zOx))))) (And.intro (And.intro (And.intro (@zOy) (@zOz)) (And.intro (@zNv) (And.intro (@zNw) (@zNx)))) (And.intro (And.intro (@zNy) (And.intro (@zNz) (@zMv))) (And.intro (@zMw) (And.intro (@zMx) (@zMy)))))) (And.intro (And.intro (And.intro (And.intro (@zMz) (@yQy)) (And.intro (@yQz) (And.intro (@yPv) (@yPw)))) (And.intro (And.intro (@yPx) (And.intro (@yPy) (@yPz))) (And.intro (@yOv) (And.intro (@yOw) (@yOx))))) (And.intro (And.intro (And.intro (@yOy) (And.intro (@yOz) (@yNv))) (And.intro (@yNw) (And.intro (@yNx) (@yNy)))) (And.intro (And.intro (@yNz) (And.intro (@yMv) (@yMw))) (And.intro (@yMx) (And.intro (@yMy) (@yMz))))))) (And.intro (And.intro (And.intro (And.intro (And.intro (@yLv) (@yLw)) (And.intro (@yLx) (And.intro (@yLy) (@yLz)))) (And.intro (And.intro (@yKv) (And.intro (@yKw) (@yKx))) (And.intro (@yKy) (And.intro (@yKz) (@yJv))))) (And.intro (And.intro (And.intro (@yJw) (@yJx)) (And.intro (@yJy) (And.intro (@yJz) (@yIv)))) (And.intro (And.intro (@yIw) (And.intro (@yIx) (@yIy))) (And.intro (@yIz) (And.intro (@yHv) (@yHw)))))) (And.intro (And.intro (And.intro (And.intro (@yHx) (@yHy)) (And.intro (@yHz) (And.intro (@yGv) (@yGw)))) (And.intro (And.intro (@yGx) (And.intro (@zYz) (@zXv))) (And.intro (@yGy) (And.intro (@yGz) (@yFv))))) (And.intro (And.intro (And.intro (@yFw) (And.intro (@yFx) (@yFy))) (And.intro (@yFz) (And.intro (@yEv) (@yEw)))) (And.intro (And.intro (@yEx) (And.intro (@yEy) (@zXw))) (And.intro (@yEz) (And.intro (@yDv) (@zXx))))))))
structure okT (T:Te):Prop where
  sp:1≤T.sp∧T.sp≤10000
  lo:1≤T.lo∧T.lo≤10000
  we:1≤T.we∧T.we≤1000000
  al:1≤T.al∧T.al≤10
  f:0≤T.f0∧T.f0≤T.f1∧T.f1≤100000000
  t:500≤T.t0∧T.t0≤T.t1∧T.t1≤3000
  s:500≤T.s0∧T.s0≤T.s1∧T.s1≤3000
  o:0≤T.o0∧T.o0≤T.o1∧T.o1≤1000
  b:0≤T.b0∧T.b0≤T.b1∧T.b1≤200
  r:0≤T.r0∧T.r0≤T.r1∧T.r1≤2000
theorem okT_iff (T:Te):okT T ↔ ((1≤T.sp∧T.sp≤10000)∧(1≤T.lo∧T.lo≤10000)∧(1≤T.we∧T.we≤1000000)∧(1≤T.al∧T.al≤10)∧(0≤T.f0∧T.f0≤T.f1∧T.f1≤100000000)∧(500≤T.t0∧T.t0≤T.t1∧T.t1≤3000)∧(500≤T.s0∧T.s0≤T.s1∧T.s1≤3000)∧(0≤T.o0∧T.o0≤T.o1∧T.o1≤1000)∧(0≤T.b0∧T.b0≤T.b1∧T.b1≤200)∧(0≤T.r0∧T.r0≤T.r1∧T.r1≤2000)):=
  ⟨fun ⟨a,b,c,d,e,f,g,h,i,j⟩=>⟨a,b,c,d,e,f,g,h,i,j⟩,fun ⟨a,b,c,d,e,f,g,h,i,j⟩=>⟨a,b,c,d,e,f,g,h,i,j⟩⟩
instance (T:Te):Decidable (okT T):=decidable_of_iff _ (okT_iff T).symm
theorem yZv {a b x y:Int} (ha:0≤a∧a≤x) (hb:0≤b∧b≤y):0≤a * b∧a * b≤x * y:=
  ⟨Int.mul_nonneg ha.1 hb.1,Int.mul_le_mul ha.2 hb.2 hb.1 (by omega)⟩
theorem xEy {n g:Int} (hn:0≤n∧n≤9223372036854775807) (hg:0<g):IntKind.i64.wrap (n.tdiv g)=n / g:=by
  rw [Int.tdiv_eq_ediv_of_nonneg hn.1]
  have h1:0≤n / g:=Int.ediv_nonneg hn.1 (by omega)
  have h2:n / g≤n:=Int.ediv_le_self _ hn.1
  obtain ⟨a,b⟩:=hn
  exact xRv _ (by omega) (by omega)
def mo (T:Te) (tank:Int):Int:=T.sp * T.lo / tank
def sh (T:Te) (sea:Int):Int:=T.sp * T.lo * T.al * T.al * T.al / sea
structure Prods (T:Te):Prop where
  p2:0≤T.sp * T.lo∧T.sp * T.lo≤100000000
  p3:0≤T.sp * T.lo * T.al∧T.sp * T.lo * T.al≤1000000000
  p4:0≤T.sp * T.lo * T.al * T.al∧T.sp * T.lo * T.al * T.al≤10000000000
  p5:0≤T.sp * T.lo * T.al * T.al * T.al∧T.sp * T.lo * T.al * T.al * T.al≤100000000000
  w2:1≤T.we * T.sp∧T.we * T.sp≤10000000000
  w3:1≤T.we * T.sp * T.sp∧T.we * T.sp * T.sp≤100000000000000
theorem okT.prods {T:Te} (k:okT T):Prods T:=by
  have h2:=yZv (a:=T.sp) (b:=T.lo) (x:=10000) (y:=10000) ⟨by have:=k.sp;omega,k.sp.2⟩ ⟨by have:=k.lo;omega,k.lo.2⟩
  have ha:0≤T.al∧T.al≤10:=⟨by have:=k.al;omega,k.al.2⟩
  have h3:=yZv h2 ha
  have h4:=yZv h3 ha
  have h5:=yZv h4 ha
  have hs:0≤T.sp∧T.sp≤10000:=⟨by have:=k.sp;omega,k.sp.2⟩
  have w2:=yZv (a:=T.we) (x:=1000000) ⟨by have:=k.we;omega,k.we.2⟩ hs
  have w3:=yZv w2 hs
  have p1:=Int.mul_pos (show 0<T.we by have:=k.we;omega) (show 0<T.sp by have:=k.sp;omega)
  have p2:=Int.mul_pos p1 (show 0<T.sp by have:=k.sp;omega)
  exact ⟨⟨h2.1,by omega⟩,⟨h3.1,by omega⟩,⟨h4.1,by omega⟩,⟨h5.1,by omega⟩,⟨by omega,by omega⟩,⟨by omega,by omega⟩⟩
theorem model (T:Te) (k:okT T) (lv:AV) (n:Int) (hn:0<n) (h:H) (wf:Wf h):(om Try.prog KK).call (.fn 46 [.agg [ii T.sp,ii T.lo,ii T.we,ii T.al,ii T.f0,ii T.f1,ii T.t0,ii T.t1,ii T.s0,ii T.s1,ii T.o0,ii T.o1,ii T.b0,ii T.b1,ii T.r0,ii T.r1,lv],ii n]) h = .ok (ii (mo T n)) h:=by
  refine zWy (zLx (fn:=Try.f46) Try.func46 rfl rfl rfl rfl rfl ?_)
  simp only [zLy]
  have hz:n≠0:=by omega
  obtain ⟨p2,p3,p4,p5,-,-⟩:=k.prods
  (repeat' (first
  | (with_reducible first|refine zJw ?_|refine zHz ?_|refine zEv ?_|refine zEw ?_|refine zFz ?_|refine zJv ?_|refine zHy ?_|refine zBv ?_|refine zDx ?_|refine zCz ?_|refine zCw ?_|refine zEy ?_|refine zCv ?_|refine zCy ?_|refine zBy ?_|refine zDv ?_|refine zEz ?_|refine zAw ?_|refine zBz ?_)
  | refine zDz ?_|refine zEx rfl ?_|refine zJy ?_|refine zJx ?_
  | ((first|refine zGv rfl rfl rfl rfl rfl fun K_ hK_=>?_|refine zGw rfl rfl rfl rfl rfl fun K_ hK_=>?_);simp only [zAz,zDy,zGx,↓reduceIte,reduceCtorEq,Nat.reduceEqDiff,Bool.not_true,Bool.not_false];refine hK_ _ ?_;clear hK_ K_)
  | refine zDw (by decide) ?_
  | ((try first|refine zKy rfl rfl rfl ?_|refine zJz rfl rfl ?_|refine zKx rfl rfl rfl ?_|refine zIv rfl rfl ?_);(refine zIw fun Q_ hQ_=>?_;simp (disch:=first|omega|(simp only [List.length_cons,List.length_nil,List.length_append];omega)) only [bb,bp,zLy,↓reduceIte,reduceCtorEq,Nat.reduceEqDiff,Nat.reduceLT,Nat.reduceLeDiff,Nat.reduceAdd,Nat.reduceMul,Nat.reduceSub,Nat.reduceBEq,Int.reduceToNat,cond_true,cond_false,eq_self,beq_self_eq_true,b_quo hz,xEy (n:=T.sp * T.lo) ⟨by omega,by omega⟩ hn,zFx wf,zGy wf,zBw wf,zFy wf,zAy wf,zAx,tEvD2,zIx,zIy,zIz,zHv,zFv,zAv wf];first|(refine zCx (Q:=Q_) (fun hp_=>?_) (fun hp_=>?_) <;> first|(exfalso;omega)|(refine hQ_ _ _ ?_;clear hQ_ Q_))|(refine zBx (Q:=Q_) (fun hp_=>?_) (fun hp_=>?_) <;> first|(exfalso;omega)|(refine hQ_ _ _ ?_;clear hQ_ Q_))|(refine hQ_ _ _ ?_;clear hQ_ Q_)))
  | (refine zHx fun K_ hK_=>?_;simp (disch:=omega) only [zGz,zAz,zHw,↓reduceIte,reduceCtorEq,Nat.reduceEqDiff,Nat.reduceLT];refine hK_ _ ?_;clear hK_ K_)))
  (refine zKz _ _ rfl (ret1 (by decide)) ?_;simp only [zAz,↓reduceIte,reduceCtorEq,Nat.reduceEqDiff];refine zKw rfl (by omega) ?_)
  exact ⟨rfl,rfl⟩
theorem shipN (T:Te) (k:okT T) (lv:AV) (n:Int) (hn:0<n) (h:H) (wf:Wf h):(om Try.prog KK).call (.fn 47 [.agg [ii T.sp,ii T.lo,ii T.we,ii T.al,ii T.f0,ii T.f1,ii T.t0,ii T.t1,ii T.s0,ii T.s1,ii T.o0,ii T.o1,ii T.b0,ii T.b1,ii T.r0,ii T.r1,lv],ii n]) h = .ok (ii (sh T n)) h:=by
  refine zWy (zLx (fn:=Try.f47) Try.func47 rfl rfl rfl rfl rfl ?_)
  simp only [zLy]
  have hz:n≠0:=by omega
  obtain ⟨p2,p3,p4,p5,-,-⟩:=k.prods
  (repeat' (first
  | (with_reducible first|refine zJw ?_|refine zHz ?_|refine zEv ?_|refine zEw ?_|refine zFz ?_|refine zJv ?_|refine zHy ?_|refine zBv ?_|refine zDx ?_|refine zCz ?_|refine zCw ?_|refine zEy ?_|refine zCv ?_|refine zCy ?_|refine zBy ?_|refine zDv ?_|refine zEz ?_|refine zAw ?_|refine zBz ?_)
  | refine zDz ?_|refine zEx rfl ?_|refine zJy ?_|refine zJx ?_
  | ((first|refine zGv rfl rfl rfl rfl rfl fun K_ hK_=>?_|refine zGw rfl rfl rfl rfl rfl fun K_ hK_=>?_);simp only [zAz,zDy,zGx,↓reduceIte,reduceCtorEq,Nat.reduceEqDiff,Bool.not_true,Bool.not_false];refine hK_ _ ?_;clear hK_ K_)
  | refine zDw (by decide) ?_
  | ((try first|refine zKy rfl rfl rfl ?_|refine zJz rfl rfl ?_|refine zKx rfl rfl rfl ?_|refine zIv rfl rfl ?_);(refine zIw fun Q_ hQ_=>?_;simp (disch:=first|omega|(simp only [List.length_cons,List.length_nil,List.length_append];omega)) only [bb,bp,zLy,↓reduceIte,reduceCtorEq,Nat.reduceEqDiff,Nat.reduceLT,Nat.reduceLeDiff,Nat.reduceAdd,Nat.reduceMul,Nat.reduceSub,Nat.reduceBEq,Int.reduceToNat,cond_true,cond_false,eq_self,beq_self_eq_true,b_quo hz,xEy (n:=T.sp * T.lo * T.al * T.al * T.al) ⟨by omega,by omega⟩ hn,zFx wf,zGy wf,zBw wf,zFy wf,zAy wf,zAx,tEvD2,zIx,zIy,zIz,zHv,zFv,zAv wf];first|(refine zCx (Q:=Q_) (fun hp_=>?_) (fun hp_=>?_) <;> first|(exfalso;omega)|(refine hQ_ _ _ ?_;clear hQ_ Q_))|(refine zBx (Q:=Q_) (fun hp_=>?_) (fun hp_=>?_) <;> first|(exfalso;omega)|(refine hQ_ _ _ ?_;clear hQ_ Q_))|(refine hQ_ _ _ ?_;clear hQ_ Q_)))
  | (refine zHx fun K_ hK_=>?_;simp (disch:=omega) only [zGz,zAz,zHw,↓reduceIte,reduceCtorEq,Nat.reduceEqDiff,Nat.reduceLT];refine hK_ _ ?_;clear hK_ K_)))
  (refine zKz _ _ rfl (ret1 (by decide)) ?_;simp only [zAz,↓reduceIte,reduceCtorEq,Nat.reduceEqDiff];refine zKw rfl (by omega) ?_)
  exact ⟨rfl,rfl⟩
theorem numbers (T:Te) (k:okT T) (m n:Int) (hm:0<m) (hn:0<n) (h:H) (wf:Wf h):(om Try.prog KK).call (.fn 44 [.agg [ii T.sp,ii T.lo,ii T.we,ii T.al,ii T.f0,ii T.f1,ii T.t0,ii T.t1,ii T.s0,ii T.s1,ii T.o0,ii T.o1,ii T.b0,ii T.b1,ii T.r0,ii T.r1],ii m,ii n]) h = .ok (.tup [ii (mo T m),ii (sh T n)]) h:=by
  refine zWy (zLx (fn:=Try.f44) Try.func44 rfl rfl rfl rfl rfl ?_)
  simp only [zLy]
  have hz:n≠0:=by omega
  have hz':m≠0:=by omega
  obtain ⟨p2,p3,p4,p5,-,-⟩:=k.prods
  (repeat' (first
  | (with_reducible first|refine zJw ?_|refine zHz ?_|refine zEv ?_|refine zEw ?_|refine zFz ?_|refine zJv ?_|refine zHy ?_|refine zBv ?_|refine zDx ?_|refine zCz ?_|refine zCw ?_|refine zEy ?_|refine zCv ?_|refine zCy ?_|refine zBy ?_|refine zDv ?_|refine zEz ?_|refine zAw ?_|refine zBz ?_)
  | refine zDz ?_|refine zEx rfl ?_|refine zJy ?_|refine zJx ?_
  | ((first|refine zGv rfl rfl rfl rfl rfl fun K_ hK_=>?_|refine zGw rfl rfl rfl rfl rfl fun K_ hK_=>?_);simp only [zAz,zDy,zGx,↓reduceIte,reduceCtorEq,Nat.reduceEqDiff,Bool.not_true,Bool.not_false];refine hK_ _ ?_;clear hK_ K_)
  | refine zDw (by decide) ?_
  | ((try first|refine zKy rfl rfl rfl ?_|refine zJz rfl rfl ?_|refine zKx rfl rfl rfl ?_|refine zIv rfl rfl ?_);(refine zIw fun Q_ hQ_=>?_;simp (disch:=first|omega|(simp only [List.length_cons,List.length_nil,List.length_append];omega)) only [bb,bp,zLy,↓reduceIte,reduceCtorEq,Nat.reduceEqDiff,Nat.reduceLT,Nat.reduceLeDiff,Nat.reduceAdd,Nat.reduceMul,Nat.reduceSub,Nat.reduceBEq,Int.reduceToNat,cond_true,cond_false,eq_self,beq_self_eq_true,zFx wf,zGy wf,zBw wf,zFy wf,zAy wf,zAx,tEvD2,zIx,zIy,zIz,zHv,zFv,zAv wf];first|(refine zCx (Q:=Q_) (fun hp_=>?_) (fun hp_=>?_) <;> first|(exfalso;omega)|(refine hQ_ _ _ ?_;clear hQ_ Q_))|(refine zBx (Q:=Q_) (fun hp_=>?_) (fun hp_=>?_) <;> first|(exfalso;omega)|(refine hQ_ _ _ ?_;clear hQ_ Q_))|(refine hQ_ _ _ ?_;clear hQ_ Q_)))
  | (refine zHx fun K_ hK_=>?_;simp (disch:=omega) only [zGz,zAz,zHw,↓reduceIte,reduceCtorEq,Nat.reduceEqDiff,Nat.reduceLT];refine hK_ _ ?_;clear hK_ K_)))
  refine zLv (List.replicate 24 .no++[.full]) (by kernel_rfl) ?_
  (repeat' (first
  | (with_reducible first|refine zJw ?_|refine zHz ?_|refine zEv ?_|refine zEw ?_|refine zFz ?_|refine zJv ?_|refine zHy ?_|refine zBv ?_|refine zDx ?_|refine zCz ?_|refine zCw ?_|refine zEy ?_|refine zCv ?_|refine zCy ?_|refine zBy ?_|refine zDv ?_|refine zEz ?_|refine zAw ?_|refine zBz ?_)
  | refine zDz ?_|refine zEx rfl ?_|refine zJy ?_|refine zJx ?_
  | ((first|refine zGv rfl rfl rfl rfl rfl fun K_ hK_=>?_|refine zGw rfl rfl rfl rfl rfl fun K_ hK_=>?_);simp only [zAz,zDy,zGx,↓reduceIte,reduceCtorEq,Nat.reduceEqDiff,Bool.not_true,Bool.not_false];refine hK_ _ ?_;clear hK_ K_)
  | refine zDw (by decide) ?_
  | ((try first|refine zKy rfl rfl rfl ?_|refine zJz rfl rfl ?_|refine zKx rfl rfl rfl ?_|refine zIv rfl rfl ?_);(refine zIw fun Q_ hQ_=>?_;simp (disch:=first|omega|(simp only [List.length_cons,List.length_nil,List.length_append];omega)) only [bb,bp,zLy,↓reduceIte,reduceCtorEq,Nat.reduceEqDiff,Nat.reduceLT,Nat.reduceLeDiff,Nat.reduceAdd,Nat.reduceMul,Nat.reduceSub,Nat.reduceBEq,Int.reduceToNat,cond_true,cond_false,eq_self,beq_self_eq_true,b_quo hz,b_quo hz',xEy (n:=T.sp * T.lo * T.al * T.al * T.al) ⟨by omega,by omega⟩ hn,xEy (n:=T.sp * T.lo) ⟨by omega,by omega⟩ hm,zFx wf,zGy wf,zBw wf,zFy wf,zAy wf,zAx,tEvD2,zIx,zIy,zIz,zHv,zFv,zAv wf];first|(refine zCx (Q:=Q_) (fun hp_=>?_) (fun hp_=>?_) <;> first|(exfalso;omega)|(refine hQ_ _ _ ?_;clear hQ_ Q_))|(refine zBx (Q:=Q_) (fun hp_=>?_) (fun hp_=>?_) <;> first|(exfalso;omega)|(refine hQ_ _ _ ?_;clear hQ_ Q_))|(refine hQ_ _ _ ?_;clear hQ_ Q_)))
  | (refine zHx fun K_ hK_=>?_;simp (disch:=omega) only [zGz,zAz,zHw,↓reduceIte,reduceCtorEq,Nat.reduceEqDiff,Nat.reduceLT];refine hK_ _ ?_;clear hK_ K_)))
  (refine zKz _ _ rfl (ret2 (by decide) (by decide)) ?_;simp only [zAz,↓reduceIte,reduceCtorEq,Nat.reduceEqDiff];refine zKw rfl (by omega) ?_)
  exact ⟨rfl,rfl⟩
theorem Measured (T:Te) (k:okT T) (n:Int) (hn:0≤n∧n≤100000000) (h:H) (wf:Wf h):(om Try.prog KK).call (.fn 34 [.agg [ii T.sp,ii T.lo,ii T.we,ii T.al,ii T.f0,ii T.f1,ii T.t0,ii T.t1,ii T.s0,ii T.s1,ii T.o0,ii T.o1,ii T.b0,ii T.b1,ii T.r0,ii T.r1],ii n]) h = .ok (ii (min 1000000000 (20000000000 * n / (T.we * T.sp * T.sp)))) h:=by
  refine zWy (zLx (fn:=Try.f34) Try.func34 rfl rfl rfl rfl rfl ?_)
  simp only [zLy]
  obtain ⟨-,-,-,-,p2,p3⟩:=k.prods
  have hz:T.we * T.sp * T.sp≠0:=by omega
  (repeat' (first
  | (with_reducible first|refine zJw ?_|refine zHz ?_|refine zEv ?_|refine zEw ?_|refine zFz ?_|refine zJv ?_|refine zHy ?_|refine zBv ?_|refine zDx ?_|refine zCz ?_|refine zCw ?_|refine zEy ?_|refine zCv ?_|refine zCy ?_|refine zBy ?_|refine zDv ?_|refine zEz ?_|refine zAw ?_|refine zBz ?_)
  | refine zDz ?_|refine zEx rfl ?_|refine zJy ?_|refine zJx ?_
  | ((first|refine zGv rfl rfl rfl rfl rfl fun K_ hK_=>?_|refine zGw rfl rfl rfl rfl rfl fun K_ hK_=>?_);simp only [zAz,zDy,zGx,↓reduceIte,reduceCtorEq,Nat.reduceEqDiff,Bool.not_true,Bool.not_false];refine hK_ _ ?_;clear hK_ K_)
  | refine zDw (by decide) ?_
  | ((try first|refine zKy rfl rfl rfl ?_|refine zJz rfl rfl ?_|refine zKx rfl rfl rfl ?_|refine zIv rfl rfl ?_);(refine zIw fun Q_ hQ_=>?_;simp (disch:=first|omega|(simp only [List.length_cons,List.length_nil,List.length_append];omega)) only [bb,bp,zLy,↓reduceIte,reduceCtorEq,Nat.reduceEqDiff,Nat.reduceLT,Nat.reduceLeDiff,Nat.reduceAdd,Nat.reduceMul,Nat.reduceSub,Nat.reduceBEq,Int.reduceToNat,cond_true,cond_false,eq_self,beq_self_eq_true,bi_min,b_quo hz,xEy (n:=20000000000 * n) (g:=T.we * T.sp * T.sp) ⟨by omega,by omega⟩ (by omega),zFx wf,zGy wf,zBw wf,zFy wf,zAy wf,zAx,tEvD2,zIx,zIy,zIz,zHv,zFv,zAv wf];first|(refine zCx (Q:=Q_) (fun hp_=>?_) (fun hp_=>?_) <;> first|(exfalso;omega)|(refine hQ_ _ _ ?_;clear hQ_ Q_))|(refine zBx (Q:=Q_) (fun hp_=>?_) (fun hp_=>?_) <;> first|(exfalso;omega)|(refine hQ_ _ _ ?_;clear hQ_ Q_))|(refine hQ_ _ _ ?_;clear hQ_ Q_)))
  | (refine zHx fun K_ hK_=>?_;simp (disch:=omega) only [zGz,zAz,zHw,↓reduceIte,reduceCtorEq,Nat.reduceEqDiff,Nat.reduceLT];refine hK_ _ ?_;clear hK_ K_)))
  (refine zKz _ _ rfl (ret1 (by decide)) ?_;simp only [zAz,↓reduceIte,reduceCtorEq,Nat.reduceEqDiff];refine zKw rfl (by omega) ?_)
  exact ⟨rfl,rfl⟩
end Go.Proofs.Ythaleckfgcgegaa
end

section
namespace Go.Proofs.Ythaleckfgcgegaa
open Go.Ev
set_option maxRecDepth 100000
set_option linter.unusedSimpArgs false
set_option linter.unusedVariables false
set_option maxHeartbeats 2000000
theorem tEvD3 :type_of% (And.intro (And.intro (And.intro (And.intro (And.intro (And.intro (And.intro (@yWz) (@yVv)) (And.intro (@yVw) (And.intro (@yVx) (@yVy)))) (And.intro (And.intro (@yVz) (And.intro (@yUv) (@yUw))) (And.intro (@zVy) (And.intro (@ia_2) (@sz_2))))) (And.intro (And.intro (And.intro (@ia_3) (@sz_3)) (And.intro (@ia_4) (And.intro (@sz_4) (@yUx)))) (And.intro (And.intro (@yDw) (And.intro (@yUy) (@yDx))) (And.intro (@yUz) (And.intro (@yDy) (@yTv)))))) (And.intro (And.intro (And.intro (And.intro (@zWw) (@yTw)) (And.intro (@yDz) (And.intro (@yTx) (@yCv)))) (And.intro (And.intro (@yTy) (And.intro (@yCw) (@yTz))) (And.intro (@yCx) (And.intro (@ySv) (@yCy))))) (And.intro (And.intro (And.intro (@ySw) (@yCz)) (And.intro (@ySx) (And.intro (@zXz) (@ySy)))) (And.intro (And.intro (@yBv) (And.intro (@ySz) (@yBw))) (And.intro (@yRv) (And.intro (@yBx) (@yRw))))))) (And.intro (And.intro (And.intro (And.intro (And.intro (@yBy) (@yRx)) (And.intro (@yBz) (And.intro (@yRy) (@yAv)))) (And.intro (And.intro (@yRz) (And.intro (@yAw) (@yQv))) (And.intro (@yAx) (And.intro (@yQw) (@yAy))))) (And.intro (And.intro (And.intro (@yQx) (@yAz)) (And.intro (@zVz) (And.intro (@zTw) (@zUv)))) (And.intro (And.intro (@zTx) (And.intro (@zUw) (@zTy))) (And.intro (@zUx) (And.intro (@zTz) (@zUy)))))) (And.intro (And.intro (And.intro (And.intro (@zSv) (@zUz)) (And.intro (@zSw) (And.intro (@zTv) (@zSx)))) (And.intro (And.intro (@ze_2) (And.intro (@ze_3) (@ze_4))) (And.intro (@zZv) (And.intro (@zZw) (@zZx))))) (And.intro (And.intro (And.intro (@zZy) (And.intro (@zZz) (@zYv))) (And.intro (@zYw) (And.intro (@zYx) (@zYy)))) (And.intro (And.intro (@zSy) (And.intro (@zRx) (@zRy))) (And.intro (@zRz) (And.intro (@zQv) (@zQw)))))))) (And.intro (And.intro (And.intro (And.intro (And.intro (And.intro (@zQx) (@zQy)) (And.intro (@zQz) (And.intro (@zPv) (@zPw)))) (And.intro (And.intro (@zPx) (And.intro (@zPy) (@zPz))) (And.intro (@zOv) (And.intro (@zOw) (@zOx))))) (And.intro (And.intro (And.intro (@zOy) (@zOz)) (And.intro (@zNv) (And.intro (@zNw) (@zNx)))) (And.intro (And.intro (@zNy) (And.intro (@zNz) (@zMv))) (And.intro (@zMw) (And.intro (@zMx) (@zMy)))))) (And.intro (And.intro (And.intro (And.intro (@zMz) (@yQy)) (And.intro (@yQz) (And.intro (@yPv) (@yPw)))) (And.intro (And.intro (@yPx) (And.intro (@yPy) (@yPz))) (And.intro (@yOv) (And.intro (@yOw) (@yOx))))) (And.intro (And.intro (And.intro (@yOy) (And.intro (@yOz) (@yNv))) (And.intro (@yNw) (And.intro (@yNx) (@yNy)))) (And.intro (And.intro (@yNz) (And.intro (@yMv) (@yMw))) (And.intro (@yMx) (And.intro (@yMy) (@yMz))))))) (And.intro (And.intro (And.intro (And.intro (And.intro (@yLv) (@yLw)) (And.intro (@yLx) (And.intro (@yLy) (@yLz)))) (And.intro (And.intro (@yKv) (And.intro (@yKw) (@yKx))) (And.intro (@yKy) (And.intro (@yKz) (@yJv))))) (And.intro (And.intro (And.intro (@yJw) (@yJx)) (And.intro (@yJy) (And.intro (@yJz) (@yIv)))) (And.intro (And.intro (@yIw) (And.intro (@yIx) (@yIy))) (And.intro (@yIz) (And.intro (@yHv) (@yHw)))))) (And.intro (And.intro (And.intro (And.intro (@yHx) (@yHy)) (And.intro (@yHz) (And.intro (@yGv) (@yGw)))) (And.intro (And.intro (@yGx) (And.intro (@zYz) (@zXv))) (And.intro (@yGy) (And.intro (@yGz) (@yFv))))) (And.intro (And.intro (And.intro (@yFw) (And.intro (@yFx) (@yFy))) (And.intro (@yFz) (And.intro (@yEv) (@yEw)))) (And.intro (And.intro (@yEx) (And.intro (@yEy) (@zXw))) (And.intro (@yEz) (And.intro (@yDv) (@zXx))))))))):=And.intro (And.intro (And.intro (And.intro (And.intro (And.intro (And.intro (@yWz) (@yVv)) (And.intro (@yVw) (And.intro (@yVx) (@yVy)))) (And.intro (And.intro (@yVz) (And.intro (@yUv) (@yUw))) (And.intro (@zVy) (And.intro (@ia_2) (@sz_2))))) (And.intro (And.intro (And.intro (@ia_3) (@sz_3)) (And.intro (@ia_4) (And.intro (@sz_4) (@yUx)))) (And.intro (And.intro (@yDw) (And.intro (@yUy) (@yDx))) (And.intro (@yUz) (And.intro (@yDy) (@yTv)))))) (And.intro (And.intro (And.intro (And.intro (@zWw) (@yTw)) (And.intro (@yDz) (And.intro (@yTx) (@yCv)))) (And.intro (And.intro (@yTy) (And.intro (@yCw) (@yTz))) (And.intro (@yCx) (And.intro (@ySv) (@yCy))))) (And.intro (And.intro (And.intro (@ySw) (@yCz)) (And.intro (@ySx) (And.intro (@zXz) (@ySy)))) (And.intro (And.intro (@yBv) (And.intro (@ySz) (@yBw))) (And.intro (@yRv) (And.intro (@yBx) (@yRw))))))) (And.intro (And.intro (And.intro (And.intro (And.intro (@yBy) (@yRx)) (And.intro (@yBz) (And.intro (@yRy) (@yAv)))) (And.intro (And.intro (@yRz) (And.intro (@yAw) (@yQv))) (And.intro (@yAx) (And.intro (@yQw) (@yAy))))) (And.intro (And.intro (And.intro (@yQx) (@yAz)) (And.intro (@zVz) (And.intro (@zTw) (@zUv)))) (And.intro (And.intro (@zTx) (And.intro (@zUw) (@zTy))) (And.intro (@zUx) (And.intro (@zTz) (@zUy)))))) (And.intro (And.intro (And.intro (And.intro (@zSv) (@zUz)) (And.intro (@zSw) (And.intro (@zTv) (@zSx)))) (And.intro (And.intro (@ze_2) (And.intro (@ze_3) (@ze_4))) (And.intro (@zZv) (And.intro (@zZw) (@zZx))))) (And.intro (And.intro (And.intro (@zZy) (And.intro (@zZz) (@zYv))) (And.intro (@zYw) (And.intro (@zYx) (@zYy)))) (And.intro (And.intro (@zSy) (And.intro (@zRx) (@zRy))) (And.intro (@zRz) (And.intro (@zQv) (@zQw)))))))) (And.intro (And.intro (And.intro (And.intro (And.intro (And.intro (@zQx) (@zQy)) (And.intro (@zQz) (And.intro (@zPv) (@zPw)))) (And.intro (And.intro (@zPx) (And.intro (@zPy) (@zPz))) (And.intro (@zOv) (And.intro (@zOw) (@zOx))))) (And.intro (And.intro (And.intro (@zOy) (@zOz)) (And.intro (@zNv) (And.intro (@zNw) (@zNx)))) (And.intro (And.intro (@zNy) (And.intro (@zNz) (@zMv))) (And.intro (@zMw) (And.intro (@zMx) (@zMy)))))) (And.intro (And.intro (And.intro (And.intro (@zMz) (@yQy)) (And.intro (@yQz) (And.intro (@yPv) (@yPw)))) (And.intro (And.intro (@yPx) (And.intro (@yPy) (@yPz))) (And.intro (@yOv) (And.intro (@yOw) (@yOx))))) (And.intro (And.intro (And.intro (@yOy) (And.intro (@yOz) (@yNv))) (And.intro (@yNw) (And.intro (@yNx) (@yNy)))) (And.intro (And.intro (@yNz) (And.intro (@yMv) (@yMw))) (And.intro (@yMx) (And.intro (@yMy) (@yMz))))))) (And.intro (And.intro (And.intro (And.intro (And.intro (@yLv) (@yLw)) (And.intro (@yLx) (And.intro (@yLy) (@yLz)))) (And.intro (And.intro (@yKv) (And.intro (@yKw) (@yKx))) (And.intro (@yKy) (And.intro (@yKz) (@yJv))))) (And.intro (And.intro (And.intro (@yJw) (@yJx)) (And.intro (@yJy) (And.intro (@yJz) (@yIv)))) (And.intro (And.intro (@yIw) (And.intro (@yIx) (@yIy))) (And.intro (@yIz) (And.intro (@yHv) (@yHw)))))) (And.intro (And.intro (And.intro (And.intro (@yHx) (@yHy)) (And.intro (@yHz) (And.intro (@yGv) (@yGw)))) (And.intro (And.intro (@yGx) (And.intro (@zYz) (@zXv))) (And.intro (@yGy) (And.intro (@yGz) (@yFv))))) (And.intro (And.intro (And.intro (@yFw) (And.intro (@yFx) (@yFy))) (And.intro (@yFz) (And.intro (@yEv) (@yEw)))) (And.intro (And.intro (@yEx) (And.intro (@yEy) (@zXw))) (And.intro (@yEz) (And.intro (@yDv) (@zXx))))))))
theorem flat_length {α : Type} {f : α → List AV} {m:Nat} (hf : ∀ a,(f a).length=m) (l:List α):(l.flatMap f).length=l.length * m:=by
  induction l with
  | nil=>simp
  | cons a l ih=>simp only [List.flatMap_cons,List.length_append,List.length_cons,hf,ih];rw [Nat.add_mul];omega
theorem flat_at {α : Type} {f : α → List AV} {m:Nat} (hf : ∀ a,(f a).length=m) : ∀ {l:List α} {i:Nat} (hi:i<l.length),((l.flatMap f).drop (i * m)).take m=f l[i]
  | [],i,hi=>by simp at hi
  | a :: l,0,_=>by
    rw [List.flatMap_cons,Nat.zero_mul,List.drop_zero,List.take_append_of_le_length (by rw [hf];exact Nat.le_refl _),List.take_of_length_le (by rw [hf];exact Nat.le_refl _)];rfl
  | a :: l,i+1,hi=>by
    rw [List.flatMap_cons,Nat.succ_mul,Nat.add_comm,← hf a,← List.drop_drop,List.drop_left]
    have:=flat_at hf (l:=l) (i:=i) (by simpa using hi)
    rw [hf a]
    exact this

abbrev Bd :=Int × Int × Int × Int
def bdC (b:Bd):List AV:=[ii b.1,ii b.2.1,ii b.2.2.1,ii b.2.2.2]
theorem bdC_length (b:Bd):(bdC b).length=4:=rfl
abbrev kept (b:Bd):Prop:=b.2.2.1≤b.1∧b.1≤b.2.1∧b.2.1≤b.2.2.2
def bad (b:Bd):Bool:=!decide (kept b)
def bads (bs:List Bd):List (List AV):=(bs.filter bad).map fun b=>[.agg (bdC b)]
theorem filter_at {α β : Type} {p : α → Bool} {f : α → β} {l:List α} {i:Nat} (hi:i<l.length) (hp:p l[i]=true):((l.filter p).map f)[((l.take i).filter p).length]? = some (f l[i]):=by
  have e:l=l.take i++l[i] :: l.drop (i+1):=by rw [← List.drop_eq_getElem_cons hi,List.take_append_drop]
  have e2:l.filter p=(l.take i).filter p++l[i] :: (l.drop (i+1)).filter p:=by
    conv=>lhs;rw [e]
    rw [List.filter_append,List.filter_cons_of_pos hp]
  rw [List.getElem?_map,e2,List.getElem?_append_right (Nat.le_refl _),Nat.sub_self]
  rfl
theorem filter_step {α : Type} {p : α → Bool} {l:List α} {i:Nat} (hi:i<l.length):((l.take (i+1)).filter p).length=((l.take i).filter p).length+(if p l[i]=true then 1 else 0):=by
  rw [List.take_succ_eq_append_getElem hi,List.filter_append,List.length_append]
  congr 1
  by_cases h:p l[i]=true
  · rw [List.filter_cons_of_pos h,if_pos h];rfl
  · rw [List.filter_cons_of_neg h,if_neg h];rfl

structure BdsIn (hb:H) (p:Pos) (s:AV) (bs:List Bd):Prop where
  wf:Wf hb
  ld : ∀ J w,load1 p 0 (X hb J w)=some s
  sl:Sl hb s 4 bs.length (bs.flatMap bdC)

theorem broken1 (p:Pos) (s:AV) (bs:List Bd) (hn:bs.length≤1000):Hands Try.prog KK (fun hb=>BdsIn hb p s bs) (.fn 76 [] [.ptr p 0]) (bads bs):=by
  intro l hb0 I D lo hlo0 hlow hI hy h0
  have hB:=(hI 0 hb0 h0).1
  have wf:=hB.wf
  rw [xGx,zXw]
  show WV ((om Try.prog KK).call (.fn 76 [.yld l,.ptr p 0]) hb0) _
  refine zLx (fn:=Try.f76) Try.func76 rfl rfl rfl rfl rfl ?_
  simp only [zLy]
  have hlen : ∀ h',lenE Try.prog 105 s h'=some (ii (bs.length:Int)):=fun h'=>hB.sl.len un_105
  have hld:=hB.ld
  (repeat' (first
  | (with_reducible first|refine zJw ?_|refine zHz ?_|refine zEv ?_|refine zEw ?_|refine zFz ?_|refine zJv ?_|refine zHy ?_|refine zBv ?_|refine zDx ?_|refine zCz ?_|refine zCw ?_|refine zEy ?_|refine zCv ?_|refine zCy ?_|refine zBy ?_|refine zDv ?_|refine zEz ?_|refine zAw ?_|refine zBz ?_)
  | refine zDz ?_|refine zEx rfl ?_|refine zJy ?_|refine zJx ?_
  | ((first|refine zGv rfl rfl rfl rfl rfl fun K_ hK_=>?_|refine zGw rfl rfl rfl rfl rfl fun K_ hK_=>?_);simp only [zAz,zDy,zGx,↓reduceIte,reduceCtorEq,Nat.reduceEqDiff,Bool.not_true,Bool.not_false];refine hK_ _ ?_;clear hK_ K_)
  | refine zDw (by decide) ?_
  | ((try first|refine zKy rfl rfl rfl ?_|refine zJz rfl rfl ?_|refine zKx rfl rfl rfl ?_|refine zIv rfl rfl ?_);(refine zIw fun Q_ hQ_=>?_;simp (disch:=first|omega|(simp only [List.length_cons,List.length_nil,List.length_append];omega)) only [bb,bp,zLy,↓reduceIte,reduceCtorEq,Nat.reduceEqDiff,Nat.reduceLT,Nat.reduceLeDiff,Nat.reduceAdd,Nat.reduceMul,Nat.reduceSub,Nat.reduceBEq,Int.reduceToNat,cond_true,cond_false,eq_self,beq_self_eq_true,hlen,hld,zFx wf,zGy wf,zBw wf,zFy wf,zAy wf,zAx,tEvD3,zIx,zIy,zIz,zHv,zFv,zAv wf];first|(refine zCx (Q:=Q_) (fun hp_=>?_) (fun hp_=>?_) <;> first|(exfalso;omega)|(refine hQ_ _ _ ?_;clear hQ_ Q_))|(refine zBx (Q:=Q_) (fun hp_=>?_) (fun hp_=>?_) <;> first|(exfalso;omega)|(refine hQ_ _ _ ?_;clear hQ_ Q_))|(refine hQ_ _ _ ?_;clear hQ_ Q_)))
  | (refine zHx fun K_ hK_=>?_;simp (disch:=omega) only [zGz,zAz,zHw,↓reduceIte,reduceCtorEq,Nat.reduceEqDiff,Nat.reduceLT];refine hK_ _ ?_;clear hK_ K_)))
  refine zVw (fun (i:Nat) f d h'=>i≤bs.length∧f 0 = .yld l∧f 6=s∧f 7=ii (bs.length:Int)∧f 8=ii (i:Int)∧d=[] ∧
    ∃ hb J w,h'=X hb J w∧I ((bs.take i).filter bad).length hb∧lo≤w∧w≤hb.clock∧(0<((bs.take i).filter bad).length→w<hb.clock)∧(((bs.take i).filter bad).length=0→hb=hb0∧w=hb0.clock)) (fun i=>bs.length - i) ?_ (bs.length+1) 0 (by omega) ?_
  · clear wf hB hlen hld
    rintro i f d h' ⟨hi,g0,g6,g7,g8,rfl,hb,J,w,rfl,hIi,hlo,hw,hw0,hw1⟩
    have hB:=(hI _ hb hIi).1
    have hs:=(hI _ hb hIi).2
    have wf:=hB.wf
    by_cases hlt:i<bs.length
    · obtain ⟨id,off,hix,hld⟩:=hB.sl.at wf hlt ik_105
      have hel : ∀ l w,loadAgg id off (some 4) (X hb l w)=some (.agg [ii bs[i].1,ii bs[i].2.1,ii bs[i].2.2.1,ii bs[i].2.2.2]):=fun l w=>by rw [(hld l w).2,flat_at bdC_length hlt];rfl
      have hst:=filter_step (p:=bad) hlt
      by_cases hk:kept bs[i]
      · have hbd:bad bs[i]=false:=by unfold bad;rw [decide_eq_true hk];rfl
        rw [hbd] at hst
        simp only [Bool.false_eq_true,↓reduceIte,Nat.add_zero] at hst
        obtain ⟨k1,k2,k3⟩:=hk
        (repeat' (first
  | (with_reducible first|refine zJw ?_|refine zHz ?_|refine zEv ?_|refine zEw ?_|refine zFz ?_|refine zJv ?_|refine zHy ?_|refine zBv ?_|refine zDx ?_|refine zCz ?_|refine zCw ?_|refine zEy ?_|refine zCv ?_|refine zCy ?_|refine zBy ?_|refine zDv ?_|refine zEz ?_|refine zAw ?_|refine zBz ?_)
  | refine zDz ?_|refine zEx rfl ?_|refine zJy ?_|refine zJx ?_
  | ((first|refine zGv rfl rfl rfl rfl rfl fun K_ hK_=>?_|refine zGw rfl rfl rfl rfl rfl fun K_ hK_=>?_);simp only [zAz,zDy,zGx,↓reduceIte,reduceCtorEq,Nat.reduceEqDiff,Bool.not_true,Bool.not_false];refine hK_ _ ?_;clear hK_ K_)
  | refine zDw (by decide) ?_
  | ((try first|refine zKy rfl rfl rfl ?_|refine zJz rfl rfl ?_|refine zKx rfl rfl rfl ?_|refine zIv rfl rfl ?_);(refine zIw fun Q_ hQ_=>?_;simp (disch:=first|omega|(simp only [List.length_cons,List.length_nil,List.length_append];omega)) only [bb,bp,zLy,↓reduceIte,reduceCtorEq,Nat.reduceEqDiff,Nat.reduceLT,Nat.reduceLeDiff,Nat.reduceAdd,Nat.reduceMul,Nat.reduceSub,Nat.reduceBEq,Int.reduceToNat,cond_true,cond_false,eq_self,beq_self_eq_true,g0,g6,g7,g8,hix,hel,zFx wf,zGy wf,zBw wf,zFy wf,zAy wf,zAx,tEvD3,zIx,zIy,zIz,zHv,zFv,zAv wf];first|(refine zCx (Q:=Q_) (fun hp_=>?_) (fun hp_=>?_) <;> first|(exfalso;omega)|(refine hQ_ _ _ ?_;clear hQ_ Q_))|(refine zBx (Q:=Q_) (fun hp_=>?_) (fun hp_=>?_) <;> first|(exfalso;omega)|(refine hQ_ _ _ ?_;clear hQ_ Q_))|(refine hQ_ _ _ ?_;clear hQ_ Q_)))
  | (refine zHx fun K_ hK_=>?_;simp (disch:=omega) only [zGz,zAz,zHw,↓reduceIte,reduceCtorEq,Nat.reduceEqDiff,Nat.reduceLT];refine hK_ _ ?_;clear hK_ K_)))
        refine zLz (i+1) (by omega) ⟨hlt,by simp only [zAz,↓reduceIte,reduceCtorEq,Nat.reduceEqDiff];exact g0,by simp only [zAz,↓reduceIte,reduceCtorEq,Nat.reduceEqDiff];exact g6,by simp only [zAz,↓reduceIte,reduceCtorEq,Nat.reduceEqDiff];exact g7,by simp only [zAz,↓reduceIte,reduceCtorEq,Nat.reduceEqDiff];rfl,rfl,?_⟩
        rw [hst]
        exact ⟨hb,_,_,rfl,hIi,by omega,by omega,fun h=>by have:=hw0 h;omega,fun h=>⟨(hw1 h).1,by have:=hw1 h;rw [this.1] at *;omega⟩⟩
      · have hbd:bad bs[i]=true:=by unfold bad;rw [decide_eq_false hk];rfl
        rw [hbd] at hst
        simp only [↓reduceIte] at hst
        have hat:=filter_at (p:=bad) (f:=fun b:Bd=>[AV.agg (bdC b)]) hlt hbd
        have hk' : ¬ (bs[i].2.2.1≤bs[i].1∧bs[i].1≤bs[i].2.1∧bs[i].2.1≤bs[i].2.2.2):=hk
        clear hk hbd
        (repeat' (first
  | (with_reducible first|refine zJw ?_|refine zHz ?_|refine zEv ?_|refine zEw ?_|refine zFz ?_|refine zJv ?_|refine zHy ?_|refine zBv ?_|refine zDx ?_|refine zCz ?_|refine zCw ?_|refine zEy ?_|refine zCv ?_|refine zCy ?_|refine zBy ?_|refine zDv ?_|refine zEz ?_|refine zAw ?_|refine zBz ?_)
  | refine zDz ?_|refine zEx rfl ?_|refine zJy ?_|refine zJx ?_
  | ((first|refine zGv rfl rfl rfl rfl rfl fun K_ hK_=>?_|refine zGw rfl rfl rfl rfl rfl fun K_ hK_=>?_);simp only [zAz,zDy,zGx,↓reduceIte,reduceCtorEq,Nat.reduceEqDiff,Bool.not_true,Bool.not_false];refine hK_ _ ?_;clear hK_ K_)
  | refine zDw (by decide) ?_
  | ((try first|refine zKy rfl rfl rfl ?_|refine zJz rfl rfl ?_|refine zKx rfl rfl rfl ?_|refine zIv rfl rfl ?_);(refine zIw fun Q_ hQ_=>?_;simp (disch:=first|omega|(simp only [List.length_cons,List.length_nil,List.length_append];omega)) only [bb,bp,zLy,↓reduceIte,reduceCtorEq,Nat.reduceEqDiff,Nat.reduceLT,Nat.reduceLeDiff,Nat.reduceAdd,Nat.reduceMul,Nat.reduceSub,Nat.reduceBEq,Int.reduceToNat,cond_true,cond_false,eq_self,beq_self_eq_true,g0,g6,g7,g8,hix,hel,zFx wf,zGy wf,zBw wf,zFy wf,zAy wf,zAx,tEvD3,zIx,zIy,zIz,zHv,zFv,zAv wf];first|(refine zCx (Q:=Q_) (fun hp_=>?_) (fun hp_=>?_) <;> first|(exfalso;omega)|(refine hQ_ _ _ ?_;clear hQ_ Q_))|(refine zBx (Q:=Q_) (fun hp_=>?_) (fun hp_=>?_) <;> first|(exfalso;omega)|(refine hQ_ _ _ ?_;clear hQ_ Q_))|(refine hQ_ _ _ ?_;clear hQ_ Q_)))
  | (refine zHx fun K_ hK_=>?_;simp (disch:=omega) only [zGz,zAz,zHw,↓reduceIte,reduceCtorEq,Nat.reduceEqDiff,Nat.reduceLT];refine hK_ _ ?_;clear hK_ K_)))
        all_goals (refine zIw fun Q_ hQ_=>?_)
        all_goals (simp (disch:=first|omega|(simp only [List.length_cons,List.length_nil,List.length_append];omega)) only [bb,bp,zLy,↓reduceIte,reduceCtorEq,Nat.reduceEqDiff,Nat.reduceLT,Nat.reduceLeDiff,Nat.reduceAdd,Nat.reduceMul,Nat.reduceSub,Nat.reduceBEq,Int.reduceToNat,cond_true,cond_false,eq_self,beq_self_eq_true,g0,callV_yld,tEvD3,zIx,zIy,zIz,zHv,zFv,zAv wf])
        all_goals (refine WV_yieldO (lo:=lo) (by omega) (by simp only [List.length_append,List.length_cons,List.length_nil];omega) (fun w2 hl2 hw2=>hy _ _ hat hb _ w2 hIi hl2 hw2) (fun hb' J' w' s hl' hw'=>⟨fun hI'=>hQ_ _ _ ?_,fun hD'=>hQ_ _ _ ?_⟩))
        all_goals clear hQ_ Q_
        all_goals (have sc:=s.clock)
        all_goals ((repeat' (first
  | (with_reducible first|refine zJw ?_|refine zHz ?_|refine zEv ?_|refine zEw ?_|refine zFz ?_|refine zJv ?_|refine zHy ?_|refine zBv ?_|refine zDx ?_|refine zCz ?_|refine zCw ?_|refine zEy ?_|refine zCv ?_|refine zCy ?_|refine zBy ?_|refine zDv ?_|refine zEz ?_|refine zAw ?_|refine zBz ?_)
  | refine zDz ?_|refine zEx rfl ?_|refine zJy ?_|refine zJx ?_
  | ((first|refine zGv rfl rfl rfl rfl rfl fun K_ hK_=>?_|refine zGw rfl rfl rfl rfl rfl fun K_ hK_=>?_);simp only [zAz,zDy,zGx,↓reduceIte,reduceCtorEq,Nat.reduceEqDiff,Bool.not_true,Bool.not_false];refine hK_ _ ?_;clear hK_ K_)
  | refine zDw (by decide) ?_
  | ((try first|refine zKy rfl rfl rfl ?_|refine zJz rfl rfl ?_|refine zKx rfl rfl rfl ?_|refine zIv rfl rfl ?_);(refine zIw fun Q_ hQ_=>?_;simp (disch:=first|omega|(simp only [List.length_cons,List.length_nil,List.length_append];omega)) only [bb,bp,zLy,↓reduceIte,reduceCtorEq,Nat.reduceEqDiff,Nat.reduceLT,Nat.reduceLeDiff,Nat.reduceAdd,Nat.reduceMul,Nat.reduceSub,Nat.reduceBEq,Int.reduceToNat,cond_true,cond_false,eq_self,beq_self_eq_true,g8];first|(refine zCx (Q:=Q_) (fun hp_=>?_) (fun hp_=>?_) <;> first|(exfalso;omega)|(refine hQ_ _ _ ?_;clear hQ_ Q_))|(refine zBx (Q:=Q_) (fun hp_=>?_) (fun hp_=>?_) <;> first|(exfalso;omega)|(refine hQ_ _ _ ?_;clear hQ_ Q_))|(refine hQ_ _ _ ?_;clear hQ_ Q_)))
  | (refine zHx fun K_ hK_=>?_;simp (disch:=omega) only [zGz,zAz,zHw,↓reduceIte,reduceCtorEq,Nat.reduceEqDiff,Nat.reduceLT];refine hK_ _ ?_;clear hK_ K_))))
        all_goals first
          | (refine zLz (i+1) (by omega) ⟨hlt,by simp only [zAz,↓reduceIte,reduceCtorEq,Nat.reduceEqDiff];exact g0,by simp only [zAz,↓reduceIte,reduceCtorEq,Nat.reduceEqDiff];exact g6,by simp only [zAz,↓reduceIte,reduceCtorEq,Nat.reduceEqDiff];exact g7,by simp only [zAz,↓reduceIte,reduceCtorEq,Nat.reduceEqDiff];rfl,rfl,?_⟩
             rw [hst]
             exact ⟨hb',_,_,rfl,hI',by omega,by omega,fun _=>by omega,fun h=>by omega⟩)
          | (refine zKz _ (.tup []) rfl rfl (WV_out (by rw [← hs.clock,← s.clock];omega) ⟨hb',_,_,rfl,hs.trans s,by omega,(by simp only [List.length_append,List.length_cons,List.length_nil];omega),.inr hD'⟩))
    · have hie:i=bs.length:=by omega
      subst hie
      (repeat' (first
  | (with_reducible first|refine zJw ?_|refine zHz ?_|refine zEv ?_|refine zEw ?_|refine zFz ?_|refine zJv ?_|refine zHy ?_|refine zBv ?_|refine zDx ?_|refine zCz ?_|refine zCw ?_|refine zEy ?_|refine zCv ?_|refine zCy ?_|refine zBy ?_|refine zDv ?_|refine zEz ?_|refine zAw ?_|refine zBz ?_)
  | refine zDz ?_|refine zEx rfl ?_|refine zJy ?_|refine zJx ?_
  | ((first|refine zGv rfl rfl rfl rfl rfl fun K_ hK_=>?_|refine zGw rfl rfl rfl rfl rfl fun K_ hK_=>?_);simp only [zAz,zDy,zGx,↓reduceIte,reduceCtorEq,Nat.reduceEqDiff,Bool.not_true,Bool.not_false];refine hK_ _ ?_;clear hK_ K_)
  | refine zDw (by decide) ?_
  | ((try first|refine zKy rfl rfl rfl ?_|refine zJz rfl rfl ?_|refine zKx rfl rfl rfl ?_|refine zIv rfl rfl ?_);(refine zIw fun Q_ hQ_=>?_;simp (disch:=first|omega|(simp only [List.length_cons,List.length_nil,List.length_append];omega)) only [bb,bp,zLy,↓reduceIte,reduceCtorEq,Nat.reduceEqDiff,Nat.reduceLT,Nat.reduceLeDiff,Nat.reduceAdd,Nat.reduceMul,Nat.reduceSub,Nat.reduceBEq,Int.reduceToNat,cond_true,cond_false,eq_self,beq_self_eq_true,g0,g6,g7,g8];first|(refine zCx (Q:=Q_) (fun hp_=>?_) (fun hp_=>?_) <;> first|(exfalso;omega)|(refine hQ_ _ _ ?_;clear hQ_ Q_))|(refine zBx (Q:=Q_) (fun hp_=>?_) (fun hp_=>?_) <;> first|(exfalso;omega)|(refine hQ_ _ _ ?_;clear hQ_ Q_))|(refine hQ_ _ _ ?_;clear hQ_ Q_)))
  | (refine zHx fun K_ hK_=>?_;simp (disch:=omega) only [zGz,zAz,zHw,↓reduceIte,reduceCtorEq,Nat.reduceEqDiff,Nat.reduceLT];refine hK_ _ ?_;clear hK_ K_)))
      rw [List.take_of_length_le (Nat.le_refl _)] at hIi hw0 hw1
      have hxl:(bads bs).length=(bs.filter bad).length:=by unfold bads;rw [List.length_map]
      rcases Nat.eq_zero_or_pos (bs.filter bad).length with hz|hz
      · obtain ⟨e1,e2⟩:=hw1 hz
        subst e1
        refine endQ_norm _ (.tup []) rfl rfl (zKw rfl (by omega) ⟨hb,[],hb.w,(X_self hb).symm,Same.rfl' hb,hlo0,by omega,.inl (by rw [hxl];exact hIi)⟩)
      · refine endQ_norm _ (.tup []) rfl rfl (WV_out (by rw [← hs.clock];exact hw0 hz) ⟨hb,_,_,rfl,hs,by omega,by omega,.inl (by rw [hxl];exact hIi)⟩)
  · exact ⟨Nat.zero_le _,by simp only [zAz,↓reduceIte,reduceCtorEq,Nat.reduceEqDiff],by simp only [zAz,↓reduceIte,reduceCtorEq,Nat.reduceEqDiff],by simp only [zAz,↓reduceIte,reduceCtorEq,Nat.reduceEqDiff],by simp only [zAz,↓reduceIte,reduceCtorEq,Nat.reduceEqDiff];rfl,rfl,hb0,[],_,rfl,by simpa using h0,by omega,by omega,fun h=>by simp at h,fun _=>⟨rfl,rfl⟩⟩

theorem broken (s:AV) (hc:AV.cells s=[s]∧oneB s=true) (h:H) (wf:Wf h) (J:List AO) (w:Nat) (hw:w≤h.clock+J.length) :
    (om Try.prog KK).call (.fn 69 [s]) (X h J w) = .ok (.fn 76 [] [.ptr (nx h J.length) 0]) (X h (J++[.cells (zFw [s]) 105]) w):=by
  have wf':=wf.X hw
  have key : ∀ hb,Wf hb→(om Try.prog KK).call (.fn 69 [s]) hb = .ok (.fn 76 [] [.ptr (nx hb 0) 0]) (X hb [.cells (zFw [s]) 105] hb.w):=by
    clear wf wf'
    intro hb wf
    refine zWy (zLx (fn:=Try.f69) Try.func69 rfl rfl rfl rfl rfl ?_)
    simp only [zLy]
    (repeat' (first
  | (with_reducible first|refine zJw ?_|refine zHz ?_|refine zEv ?_|refine zEw ?_|refine zFz ?_|refine zJv ?_|refine zHy ?_|refine zBv ?_|refine zDx ?_|refine zCz ?_|refine zCw ?_|refine zEy ?_|refine zCv ?_|refine zCy ?_|refine zBy ?_|refine zDv ?_|refine zEz ?_|refine zAw ?_|refine zBz ?_)
  | refine zDz ?_|refine zEx rfl ?_|refine zJy ?_|refine zJx ?_
  | ((first|refine zGv rfl rfl rfl rfl rfl fun K_ hK_=>?_|refine zGw rfl rfl rfl rfl rfl fun K_ hK_=>?_);simp only [zAz,zDy,zGx,↓reduceIte,reduceCtorEq,Nat.reduceEqDiff,Bool.not_true,Bool.not_false];refine hK_ _ ?_;clear hK_ K_)
  | refine zDw (by decide) ?_
  | ((try first|refine zKy rfl rfl rfl ?_|refine zJz rfl rfl ?_|refine zKx rfl rfl rfl ?_|refine zIv rfl rfl ?_);(refine zIw fun Q_ hQ_=>?_;simp (disch:=first|omega|(simp only [List.length_cons,List.length_nil,List.length_append];omega)) only [bb,bp,zLy,↓reduceIte,reduceCtorEq,Nat.reduceEqDiff,Nat.reduceLT,Nat.reduceLeDiff,Nat.reduceAdd,Nat.reduceMul,Nat.reduceSub,Nat.reduceBEq,Int.reduceToNat,cond_true,cond_false,eq_self,beq_self_eq_true,hc.1,zFx wf,zGy wf,zBw wf,zFy wf,zAy wf,zAx,tEvD3,zIx,zIy,zIz,zHv,zFv,zAv wf];first|(refine zCx (Q:=Q_) (fun hp_=>?_) (fun hp_=>?_) <;> first|(exfalso;omega)|(refine hQ_ _ _ ?_;clear hQ_ Q_))|(refine zBx (Q:=Q_) (fun hp_=>?_) (fun hp_=>?_) <;> first|(exfalso;omega)|(refine hQ_ _ _ ?_;clear hQ_ Q_))|(refine hQ_ _ _ ?_;clear hQ_ Q_)))
  | (refine zHx fun K_ hK_=>?_;simp (disch:=omega) only [zGz,zAz,zHw,↓reduceIte,reduceCtorEq,Nat.reduceEqDiff,Nat.reduceLT];refine hK_ _ ?_;clear hK_ K_)))
    refine zKz _ _ rfl (ret1 (by decide)) ?_
    simp only [zAz,↓reduceIte,reduceCtorEq,Nat.reduceEqDiff]
    refine WV_ext (by
      show (_ && flat (.fn 76 [] [.ptr _ 0]))=false
      exact Bool.and_false _) ?_
    refine ⟨rfl,?_⟩
    rw [Nat.min_eq_left wf.wle]
  rw [key _ wf',X_X,nx_X,X_w]
  rfl

def doneO (o:AO):Prop:=∃ g' n' tm' ps' sg' bd' dd',o = .loop .done .ret g' n' tm' ps' sg' bd' dd'
theorem bads_nil {bs:List Bd} : (bads bs).length=0 ↔ ∀ b ∈ bs,kept b:=by
  unfold bads
  rw [List.length_map,List.length_eq_zero_iff,List.filter_eq_nil_iff]
  constructor
  · intro h b hb
    have:=h b hb
    unfold bad at this
    simpa using this
  · intro h b hb
    unfold bad
    simpa using h b hb
theorem areKept (s:AV) (bs:List Bd) (hn:bs.length≤1000) (h:H) (wf:Wf h) (sl:Sl h s 4 bs.length (bs.flatMap bdC)) :
    (om Try.prog KK).call (.fn 51 [s]) h = .ok (.bool (decide (∀ b ∈ bs,kept b))) h:=by
  have hc:AV.cells s=[s]∧oneB s=true:=by
    rcases sl with ⟨_,⟨e,_⟩|⟨_,_,_,_,_,_,e,_⟩⟩ <;> rw [e] <;> exact ⟨rfl,rfl⟩
  refine zWy (zLx (fn:=Try.f51) Try.func51 rfl rfl rfl rfl rfl ?_)
  simp only [zLy]
  (repeat' (first
  | (with_reducible first|refine zJw ?_|refine zHz ?_|refine zEv ?_|refine zEw ?_|refine zFz ?_|refine zJv ?_|refine zHy ?_|refine zBv ?_|refine zDx ?_|refine zCz ?_|refine zCw ?_|refine zEy ?_|refine zCv ?_|refine zCy ?_|refine zBy ?_|refine zDv ?_|refine zEz ?_|refine zAw ?_|refine zBz ?_)
  | refine zDz ?_|refine zEx rfl ?_|refine zJy ?_|refine zJx ?_
  | ((first|refine zGv rfl rfl rfl rfl rfl fun K_ hK_=>?_|refine zGw rfl rfl rfl rfl rfl fun K_ hK_=>?_);simp only [zAz,zDy,zGx,↓reduceIte,reduceCtorEq,Nat.reduceEqDiff,Bool.not_true,Bool.not_false];refine hK_ _ ?_;clear hK_ K_)
  | refine zDw (by decide) ?_
  | ((try first|refine zKy rfl rfl rfl ?_|refine zJz rfl rfl ?_|refine zKx rfl rfl rfl ?_|refine zIv rfl rfl ?_);(refine zIw fun Q_ hQ_=>?_;simp (disch:=first|omega|(simp only [List.length_cons,List.length_nil,List.length_append];omega)) only [bb,bp,zLy,↓reduceIte,reduceCtorEq,Nat.reduceEqDiff,Nat.reduceLT,Nat.reduceLeDiff,Nat.reduceAdd,Nat.reduceMul,Nat.reduceSub,Nat.reduceBEq,Int.reduceToNat,cond_true,cond_false,eq_self,beq_self_eq_true,zFx wf,zGy wf,zBw wf,zFy wf,zAy wf,zAx,tEvD3,zIx,zIy,zIz,zHv,zFv,zAv wf];first|(refine zCx (Q:=Q_) (fun hp_=>?_) (fun hp_=>?_) <;> first|(exfalso;omega)|(refine hQ_ _ _ ?_;clear hQ_ Q_))|(refine zBx (Q:=Q_) (fun hp_=>?_) (fun hp_=>?_) <;> first|(exfalso;omega)|(refine hQ_ _ _ ?_;clear hQ_ Q_))|(refine hQ_ _ _ ?_;clear hQ_ Q_)|(refine zRv (broken s hc h wf _ _ (by simp only [List.length_append,List.length_cons,List.length_nil];omega)) ?_;refine hQ_ _ _ ?_;clear hQ_ Q_)))
  | (refine zHx fun K_ hK_=>?_;simp (disch:=omega) only [zGz,zAz,zHw,↓reduceIte,reduceCtorEq,Nat.reduceEqDiff,Nat.reduceLT];refine hK_ _ ?_;clear hK_ K_)))
  simp only [List.length_cons,List.length_nil,List.cons_append,List.nil_append]
  refine WC_rangeX wf rfl (zGz (by decide)) fun o ho=>?_
  simp only [zAz,↓reduceIte,reduceCtorEq,Nat.reduceEqDiff,List.length_cons,List.length_nil,List.cons_append,List.nil_append,Nat.reduceAdd]
  refine WV.mono (broken1 (nx h 1) s bs hn (nx h 3) _ (fun q hb=>q=0 ∧ ∃ w,hb=X h [.cells (zFw [.bool false]) 4,.cells (zFw [s]) 105,.dfr,o] w∧w≤h.clock+4)
    (fun hb=>∃ w o2,hb=X h [.cells (zFw [.bool false]) 4,.cells (zFw [s]) 105,.dfr,o2] w∧w≤h.clock+4∧doneO o2∧(bads bs).length≠0) h.clock (Nat.le_refl _) (Nat.le_add_right _ _) ?_ ?_ ⟨rfl,h.clock,rfl,by omega⟩) ?_
  · rintro q hb ⟨_,w,rfl,hw⟩
    refine ⟨⟨wf.X hw,fun J w'=>?_,sl.up wf _ _⟩,Same.X rfl⟩
    rw [X_X,zGy wf];rfl
  · rintro q xx hx hb J w ⟨rfl,w0,rfl,hw0⟩ hlo hw
    have hq:=zXy hx
    obtain ⟨b,rfl⟩ : ∃ b,xx=[.agg (bdC b)]:=by
      unfold bads at hx
      rw [List.getElem?_map] at hx
      cases hf:(bs.filter bad)[0]? with
      | none=>rw [hf] at hx;cases hx
      | some b=>rw [hf] at hx;exact ⟨b,(Option.some.inj hx).symm⟩
    have hw':w≤h.clock+4+J.length:=hw
    rw [X_X]
    simp only [List.cons_append,List.nil_append,bdC]
    refine WV_yldX wf (k:=3) rfl ho (setParams1 rfl) ?_
    (repeat' (first
  | (with_reducible first|refine zJw ?_|refine zHz ?_|refine zEv ?_|refine zEw ?_|refine zFz ?_|refine zJv ?_|refine zHy ?_|refine zBv ?_|refine zDx ?_|refine zCz ?_|refine zCw ?_|refine zEy ?_|refine zCv ?_|refine zCy ?_|refine zBy ?_|refine zDv ?_|refine zEz ?_|refine zAw ?_|refine zBz ?_)
  | refine zDz ?_|refine zEx rfl ?_|refine zJy ?_|refine zJx ?_
  | ((first|refine zGv rfl rfl rfl rfl rfl fun K_ hK_=>?_|refine zGw rfl rfl rfl rfl rfl fun K_ hK_=>?_);simp only [zAz,zDy,zGx,↓reduceIte,reduceCtorEq,Nat.reduceEqDiff,Bool.not_true,Bool.not_false];refine hK_ _ ?_;clear hK_ K_)
  | refine zDw (by decide) ?_
  | ((try first|refine zKy rfl rfl rfl ?_|refine zJz rfl rfl ?_|refine zKx rfl rfl rfl ?_|refine zIv rfl rfl ?_);(refine zIw fun Q_ hQ_=>?_;simp (disch:=first|omega|(simp only [List.length_cons,List.length_nil,List.length_append];omega)) only [bb,bp,zLy,↓reduceIte,reduceCtorEq,Nat.reduceEqDiff,Nat.reduceLT,Nat.reduceLeDiff,Nat.reduceAdd,Nat.reduceMul,Nat.reduceSub,Nat.reduceBEq,Int.reduceToNat,cond_true,cond_false,eq_self,beq_self_eq_true,zFx wf,zGy wf,zBw wf,zFy wf,zAy wf,zAx,tEvD3,zIx,zIy,zIz,zHv,zFv,zAv wf];first|(refine zCx (Q:=Q_) (fun hp_=>?_) (fun hp_=>?_) <;> first|(exfalso;omega)|(refine hQ_ _ _ ?_;clear hQ_ Q_))|(refine zBx (Q:=Q_) (fun hp_=>?_) (fun hp_=>?_) <;> first|(exfalso;omega)|(refine hQ_ _ _ ?_;clear hQ_ Q_))|(refine hQ_ _ _ ?_;clear hQ_ Q_)))
  | (refine zHx fun K_ hK_=>?_;simp (disch:=omega) only [zGz,zAz,zHw,↓reduceIte,reduceCtorEq,Nat.reduceEqDiff,Nat.reduceLT];refine hK_ _ ?_;clear hK_ K_)))
    refine yldA_X wf (k:=3) rfl ho fun o' ho'=>?_
    (repeat' (first
  | (with_reducible first|refine zJw ?_|refine zHz ?_|refine zEv ?_|refine zEw ?_|refine zFz ?_|refine zJv ?_|refine zHy ?_|refine zBv ?_|refine zDx ?_|refine zCz ?_|refine zCw ?_|refine zEy ?_|refine zCv ?_|refine zCy ?_|refine zBy ?_|refine zDv ?_|refine zEz ?_|refine zAw ?_|refine zBz ?_)
  | refine zDz ?_|refine zEx rfl ?_|refine zJy ?_|refine zJx ?_
  | ((first|refine zGv rfl rfl rfl rfl rfl fun K_ hK_=>?_|refine zGw rfl rfl rfl rfl rfl fun K_ hK_=>?_);simp only [zAz,zDy,zGx,↓reduceIte,reduceCtorEq,Nat.reduceEqDiff,Bool.not_true,Bool.not_false];refine hK_ _ ?_;clear hK_ K_)
  | refine zDw (by decide) ?_
  | ((try first|refine zKy rfl rfl rfl ?_|refine zJz rfl rfl ?_|refine zKx rfl rfl rfl ?_|refine zIv rfl rfl ?_);(refine zIw fun Q_ hQ_=>?_;simp (disch:=first|omega|(simp only [List.length_cons,List.length_nil,List.length_append];omega)) only [bb,bp,zLy,↓reduceIte,reduceCtorEq,Nat.reduceEqDiff,Nat.reduceLT,Nat.reduceLeDiff,Nat.reduceAdd,Nat.reduceMul,Nat.reduceSub,Nat.reduceBEq,Int.reduceToNat,cond_true,cond_false,eq_self,beq_self_eq_true,zFx wf,zGy wf,zBw wf,zFy wf,zAy wf,zAx,tEvD3,zIx,zIy,zIz,zHv,zFv,zAv wf];first|(refine zCx (Q:=Q_) (fun hp_=>?_) (fun hp_=>?_) <;> first|(exfalso;omega)|(refine hQ_ _ _ ?_;clear hQ_ Q_))|(refine zBx (Q:=Q_) (fun hp_=>?_) (fun hp_=>?_) <;> first|(exfalso;omega)|(refine hQ_ _ _ ?_;clear hQ_ Q_))|(refine hQ_ _ _ ?_;clear hQ_ Q_)))
  | (refine zHx fun K_ hK_=>?_;simp (disch:=omega) only [zGz,zAz,zHw,↓reduceIte,reduceCtorEq,Nat.reduceEqDiff,Nat.reduceLT];refine hK_ _ ?_;clear hK_ K_)))
    refine yldB_ret_X wf (k:=3) rfl ho' fun o2 ho2=>?_
    simp only [List.set_cons_succ,List.set_cons_zero]
    refine ⟨X h [.cells (zFw [.bool false]) 4,.cells (zFw [s]) 105,.dfr,o2] w0,[],_,by rw [X_X,List.append_nil];rfl,Same.X rfl,by omega,?_,.inr ⟨rfl,w0,o2,rfl,hw0,⟨_,_,_,_,_,_,_,ho2⟩,by omega⟩⟩
    show _<h.clock+4
    omega
  · rintro v h' ⟨hb,J,w,rfl,hs,hlo,hw,⟨hz,w0,rfl,hw0⟩|⟨w0,o2,rfl,hw0,⟨g',n',tm',ps',sg',bd',dd',ho2⟩,hnot⟩⟩
    · rw [X_X]
      refine rangeQ_X wf (k:=3) rfl ho (by decide) fun o' ho'=>?_
      simp only [List.cons_append,List.nil_append,List.set_cons_succ,List.set_cons_zero]
      (repeat' (first
  | (with_reducible first|refine zJw ?_|refine zHz ?_|refine zEv ?_|refine zEw ?_|refine zFz ?_|refine zJv ?_|refine zHy ?_|refine zBv ?_|refine zDx ?_|refine zCz ?_|refine zCw ?_|refine zEy ?_|refine zCv ?_|refine zCy ?_|refine zBy ?_|refine zDv ?_|refine zEz ?_|refine zAw ?_|refine zBz ?_)
  | refine zDz ?_|refine zEx rfl ?_|refine zJy ?_|refine zJx ?_
  | ((first|refine zGv rfl rfl rfl rfl rfl fun K_ hK_=>?_|refine zGw rfl rfl rfl rfl rfl fun K_ hK_=>?_);simp only [zAz,zDy,zGx,↓reduceIte,reduceCtorEq,Nat.reduceEqDiff,Bool.not_true,Bool.not_false];refine hK_ _ ?_;clear hK_ K_)
  | refine zDw (by decide) ?_
  | ((try first|refine zKy rfl rfl rfl ?_|refine zJz rfl rfl ?_|refine zKx rfl rfl rfl ?_|refine zIv rfl rfl ?_);(refine zIw fun Q_ hQ_=>?_;simp (disch:=first|omega|(simp only [List.length_cons,List.length_nil,List.length_append];omega)) only [bb,bp,zLy,↓reduceIte,reduceCtorEq,Nat.reduceEqDiff,Nat.reduceLT,Nat.reduceLeDiff,Nat.reduceAdd,Nat.reduceMul,Nat.reduceSub,Nat.reduceBEq,Int.reduceToNat,cond_true,cond_false,eq_self,beq_self_eq_true,zFx wf,zGy wf,zBw wf,zFy wf,zAy wf,zAx,tEvD3,zIx,zIy,zIz,zHv,zFv,zAv wf];first|(refine zCx (Q:=Q_) (fun hp_=>?_) (fun hp_=>?_) <;> first|(exfalso;omega)|(refine hQ_ _ _ ?_;clear hQ_ Q_))|(refine zBx (Q:=Q_) (fun hp_=>?_) (fun hp_=>?_) <;> first|(exfalso;omega)|(refine hQ_ _ _ ?_;clear hQ_ Q_))|(refine hQ_ _ _ ?_;clear hQ_ Q_)))
  | (refine zHx fun K_ hK_=>?_;simp (disch:=omega) only [zGz,zAz,zHw,↓reduceIte,reduceCtorEq,Nat.reduceEqDiff,Nat.reduceLT];refine hK_ _ ?_;clear hK_ K_)))
      refine zKz _ _ (takeAll_X wf (k:=2) rfl) (retc0 (by decide) (by simp (disch:=first|omega|(simp only [List.length_cons,List.length_nil,List.length_append];omega)) only [bb,bp,zLy,↓reduceIte,reduceCtorEq,Nat.reduceEqDiff,Nat.reduceLT,Nat.reduceLeDiff,Nat.reduceAdd,Nat.reduceMul,Nat.reduceSub,Nat.reduceBEq,Int.reduceToNat,cond_true,cond_false,eq_self,beq_self_eq_true,zGy wf,tEvD3,zIx,zIy,zIz,zHv,zFv,zAv wf];rfl)) ?_
      refine zKw rfl (by omega) ?_
      exact ⟨by rw [decide_eq_true (bads_nil.1 hz)],rfl⟩
    · rw [X_X]
      refine rangeQ_X wf (k:=3) rfl ho2 (by decide) fun o' ho'=>?_
      simp only [List.cons_append,List.nil_append,List.set_cons_succ,List.set_cons_zero]
      (repeat' (first
  | (with_reducible first|refine zJw ?_|refine zHz ?_|refine zEv ?_|refine zEw ?_|refine zFz ?_|refine zJv ?_|refine zHy ?_|refine zBv ?_|refine zDx ?_|refine zCz ?_|refine zCw ?_|refine zEy ?_|refine zCv ?_|refine zCy ?_|refine zBy ?_|refine zDv ?_|refine zEz ?_|refine zAw ?_|refine zBz ?_)
  | refine zDz ?_|refine zEx rfl ?_|refine zJy ?_|refine zJx ?_
  | ((first|refine zGv rfl rfl rfl rfl rfl fun K_ hK_=>?_|refine zGw rfl rfl rfl rfl rfl fun K_ hK_=>?_);simp only [zAz,zDy,zGx,↓reduceIte,reduceCtorEq,Nat.reduceEqDiff,Bool.not_true,Bool.not_false];refine hK_ _ ?_;clear hK_ K_)
  | refine zDw (by decide) ?_
  | ((try first|refine zKy rfl rfl rfl ?_|refine zJz rfl rfl ?_|refine zKx rfl rfl rfl ?_|refine zIv rfl rfl ?_);(refine zIw fun Q_ hQ_=>?_;simp (disch:=first|omega|(simp only [List.length_cons,List.length_nil,List.length_append];omega)) only [bb,bp,zLy,↓reduceIte,reduceCtorEq,Nat.reduceEqDiff,Nat.reduceLT,Nat.reduceLeDiff,Nat.reduceAdd,Nat.reduceMul,Nat.reduceSub,Nat.reduceBEq,Int.reduceToNat,cond_true,cond_false,eq_self,beq_self_eq_true,zFx wf,zGy wf,zBw wf,zFy wf,zAy wf,zAx,tEvD3,zIx,zIy,zIz,zHv,zFv,zAv wf];first|(refine zCx (Q:=Q_) (fun hp_=>?_) (fun hp_=>?_) <;> first|(exfalso;omega)|(refine hQ_ _ _ ?_;clear hQ_ Q_))|(refine zBx (Q:=Q_) (fun hp_=>?_) (fun hp_=>?_) <;> first|(exfalso;omega)|(refine hQ_ _ _ ?_;clear hQ_ Q_))|(refine hQ_ _ _ ?_;clear hQ_ Q_)))
  | (refine zHx fun K_ hK_=>?_;simp (disch:=omega) only [zGz,zAz,zHw,↓reduceIte,reduceCtorEq,Nat.reduceEqDiff,Nat.reduceLT];refine hK_ _ ?_;clear hK_ K_)))
      refine zKz _ _ (takeAll_X wf (k:=2) rfl) (retc0 (by decide) (by simp (disch:=first|omega|(simp only [List.length_cons,List.length_nil,List.length_append];omega)) only [bb,bp,zLy,↓reduceIte,reduceCtorEq,Nat.reduceEqDiff,Nat.reduceLT,Nat.reduceLeDiff,Nat.reduceAdd,Nat.reduceMul,Nat.reduceSub,Nat.reduceBEq,Int.reduceToNat,cond_true,cond_false,eq_self,beq_self_eq_true,zGy wf,tEvD3,zIx,zIy,zIz,zHv,zFv,zAv wf];rfl)) ?_
      refine zKw rfl (by omega) ?_
      exact ⟨by rw [decide_eq_false fun hh=>hnot (bads_nil.2 hh)],rfl⟩
end Go.Proofs.Ythaleckfgcgegaa
end

section
namespace Go.Proofs.Ythaleckfgcgegaa
open Go.Ev
set_option maxRecDepth 100000
set_option linter.unusedSimpArgs false
set_option linter.unusedVariables false
set_option maxHeartbeats 2000000
theorem tEvD4 :type_of% (And.intro (And.intro (And.intro (And.intro (And.intro (And.intro (And.intro (@yWz) (@yVv)) (And.intro (@yVw) (And.intro (@yVx) (@yVy)))) (And.intro (And.intro (@yVz) (And.intro (@yUv) (@yUw))) (And.intro (@zVy) (And.intro (@ia_2) (@sz_2))))) (And.intro (And.intro (And.intro (@ia_3) (@sz_3)) (And.intro (@ia_4) (And.intro (@sz_4) (@yUx)))) (And.intro (And.intro (@yDw) (And.intro (@yUy) (@yDx))) (And.intro (@yUz) (And.intro (@yDy) (@yTv)))))) (And.intro (And.intro (And.intro (And.intro (@zWw) (@yTw)) (And.intro (@yDz) (And.intro (@yTx) (@yCv)))) (And.intro (And.intro (@yTy) (And.intro (@yCw) (@yTz))) (And.intro (@yCx) (And.intro (@ySv) (@yCy))))) (And.intro (And.intro (And.intro (@ySw) (@yCz)) (And.intro (@ySx) (And.intro (@zXz) (@ySy)))) (And.intro (And.intro (@yBv) (And.intro (@ySz) (@yBw))) (And.intro (@yRv) (And.intro (@yBx) (@yRw))))))) (And.intro (And.intro (And.intro (And.intro (And.intro (@yBy) (@yRx)) (And.intro (@yBz) (And.intro (@yRy) (@yAv)))) (And.intro (And.intro (@yRz) (And.intro (@yAw) (@yQv))) (And.intro (@yAx) (And.intro (@yQw) (@yAy))))) (And.intro (And.intro (And.intro (@yQx) (@yAz)) (And.intro (@zVz) (And.intro (@zTw) (@zUv)))) (And.intro (And.intro (@zTx) (And.intro (@zUw) (@zTy))) (And.intro (@zUx) (And.intro (@zTz) (@zUy)))))) (And.intro (And.intro (And.intro (And.intro (@zSv) (@zUz)) (And.intro (@zSw) (And.intro (@zTv) (@zSx)))) (And.intro (And.intro (@ze_2) (And.intro (@ze_3) (@ze_4))) (And.intro (@zZv) (And.intro (@zZw) (@zZx))))) (And.intro (And.intro (And.intro (@zZy) (And.intro (@zZz) (@zYv))) (And.intro (@zYw) (And.intro (@zYx) (@zYy)))) (And.intro (And.intro (@zSy) (And.intro (@zRx) (@zRy))) (And.intro (@zRz) (And.intro (@zQv) (@zQw)))))))) (And.intro (And.intro (And.intro (And.intro (And.intro (And.intro (@zQx) (@zQy)) (And.intro (@zQz) (And.intro (@zPv) (@zPw)))) (And.intro (And.intro (@zPx) (And.intro (@zPy) (@zPz))) (And.intro (@zOv) (And.intro (@zOw) (@zOx))))) (And.intro (And.intro (And.intro (@zOy) (@zOz)) (And.intro (@zNv) (And.intro (@zNw) (@zNx)))) (And.intro (And.intro (@zNy) (And.intro (@zNz) (@zMv))) (And.intro (@zMw) (And.intro (@zMx) (@zMy)))))) (And.intro (And.intro (And.intro (And.intro (@zMz) (@yQy)) (And.intro (@yQz) (And.intro (@yPv) (@yPw)))) (And.intro (And.intro (@yPx) (And.intro (@yPy) (@yPz))) (And.intro (@yOv) (And.intro (@yOw) (@yOx))))) (And.intro (And.intro (And.intro (@yOy) (And.intro (@yOz) (@yNv))) (And.intro (@yNw) (And.intro (@yNx) (@yNy)))) (And.intro (And.intro (@yNz) (And.intro (@yMv) (@yMw))) (And.intro (@yMx) (And.intro (@yMy) (@yMz))))))) (And.intro (And.intro (And.intro (And.intro (And.intro (@yLv) (@yLw)) (And.intro (@yLx) (And.intro (@yLy) (@yLz)))) (And.intro (And.intro (@yKv) (And.intro (@yKw) (@yKx))) (And.intro (@yKy) (And.intro (@yKz) (@yJv))))) (And.intro (And.intro (And.intro (@yJw) (@yJx)) (And.intro (@yJy) (And.intro (@yJz) (@yIv)))) (And.intro (And.intro (@yIw) (And.intro (@yIx) (@yIy))) (And.intro (@yIz) (And.intro (@yHv) (@yHw)))))) (And.intro (And.intro (And.intro (And.intro (@yHx) (@yHy)) (And.intro (@yHz) (And.intro (@yGv) (@yGw)))) (And.intro (And.intro (@yGx) (And.intro (@zYz) (@zXv))) (And.intro (@yGy) (And.intro (@yGz) (@yFv))))) (And.intro (And.intro (And.intro (@yFw) (And.intro (@yFx) (@yFy))) (And.intro (@yFz) (And.intro (@yEv) (@yEw)))) (And.intro (And.intro (@yEx) (And.intro (@yEy) (@zXw))) (And.intro (@yEz) (And.intro (@yDv) (@zXx))))))))):=And.intro (And.intro (And.intro (And.intro (And.intro (And.intro (And.intro (@yWz) (@yVv)) (And.intro (@yVw) (And.intro (@yVx) (@yVy)))) (And.intro (And.intro (@yVz) (And.intro (@yUv) (@yUw))) (And.intro (@zVy) (And.intro (@ia_2) (@sz_2))))) (And.intro (And.intro (And.intro (@ia_3) (@sz_3)) (And.intro (@ia_4) (And.intro (@sz_4) (@yUx)))) (And.intro (And.intro (@yDw) (And.intro (@yUy) (@yDx))) (And.intro (@yUz) (And.intro (@yDy) (@yTv)))))) (And.intro (And.intro (And.intro (And.intro (@zWw) (@yTw)) (And.intro (@yDz) (And.intro (@yTx) (@yCv)))) (And.intro (And.intro (@yTy) (And.intro (@yCw) (@yTz))) (And.intro (@yCx) (And.intro (@ySv) (@yCy))))) (And.intro (And.intro (And.intro (@ySw) (@yCz)) (And.intro (@ySx) (And.intro (@zXz) (@ySy)))) (And.intro (And.intro (@yBv) (And.intro (@ySz) (@yBw))) (And.intro (@yRv) (And.intro (@yBx) (@yRw))))))) (And.intro (And.intro (And.intro (And.intro (And.intro (@yBy) (@yRx)) (And.intro (@yBz) (And.intro (@yRy) (@yAv)))) (And.intro (And.intro (@yRz) (And.intro (@yAw) (@yQv))) (And.intro (@yAx) (And.intro (@yQw) (@yAy))))) (And.intro (And.intro (And.intro (@yQx) (@yAz)) (And.intro (@zVz) (And.intro (@zTw) (@zUv)))) (And.intro (And.intro (@zTx) (And.intro (@zUw) (@zTy))) (And.intro (@zUx) (And.intro (@zTz) (@zUy)))))) (And.intro (And.intro (And.intro (And.intro (@zSv) (@zUz)) (And.intro (@zSw) (And.intro (@zTv) (@zSx)))) (And.intro (And.intro (@ze_2) (And.intro (@ze_3) (@ze_4))) (And.intro (@zZv) (And.intro (@zZw) (@zZx))))) (And.intro (And.intro (And.intro (@zZy) (And.intro (@zZz) (@zYv))) (And.intro (@zYw) (And.intro (@zYx) (@zYy)))) (And.intro (And.intro (@zSy) (And.intro (@zRx) (@zRy))) (And.intro (@zRz) (And.intro (@zQv) (@zQw)))))))) (And.intro (And.intro (And.intro (And.intro (And.intro (And.intro (@zQx) (@zQy)) (And.intro (@zQz) (And.intro (@zPv) (@zPw)))) (And.intro (And.intro (@zPx) (And.intro (@zPy) (@zPz))) (And.intro (@zOv) (And.intro (@zOw) (@zOx))))) (And.intro (And.intro (And.intro (@zOy) (@zOz)) (And.intro (@zNv) (And.intro (@zNw) (@zNx)))) (And.intro (And.intro (@zNy) (And.intro (@zNz) (@zMv))) (And.intro (@zMw) (And.intro (@zMx) (@zMy)))))) (And.intro (And.intro (And.intro (And.intro (@zMz) (@yQy)) (And.intro (@yQz) (And.intro (@yPv) (@yPw)))) (And.intro (And.intro (@yPx) (And.intro (@yPy) (@yPz))) (And.intro (@yOv) (And.intro (@yOw) (@yOx))))) (And.intro (And.intro (And.intro (@yOy) (And.intro (@yOz) (@yNv))) (And.intro (@yNw) (And.intro (@yNx) (@yNy)))) (And.intro (And.intro (@yNz) (And.intro (@yMv) (@yMw))) (And.intro (@yMx) (And.intro (@yMy) (@yMz))))))) (And.intro (And.intro (And.intro (And.intro (And.intro (@yLv) (@yLw)) (And.intro (@yLx) (And.intro (@yLy) (@yLz)))) (And.intro (And.intro (@yKv) (And.intro (@yKw) (@yKx))) (And.intro (@yKy) (And.intro (@yKz) (@yJv))))) (And.intro (And.intro (And.intro (@yJw) (@yJx)) (And.intro (@yJy) (And.intro (@yJz) (@yIv)))) (And.intro (And.intro (@yIw) (And.intro (@yIx) (@yIy))) (And.intro (@yIz) (And.intro (@yHv) (@yHw)))))) (And.intro (And.intro (And.intro (And.intro (@yHx) (@yHy)) (And.intro (@yHz) (And.intro (@yGv) (@yGw)))) (And.intro (And.intro (@yGx) (And.intro (@zYz) (@zXv))) (And.intro (@yGy) (And.intro (@yGz) (@yFv))))) (And.intro (And.intro (And.intro (@yFw) (And.intro (@yFx) (@yFy))) (And.intro (@yFz) (And.intro (@yEv) (@yEw)))) (And.intro (And.intro (@yEx) (And.intro (@yEy) (@zXw))) (And.intro (@yEz) (And.intro (@yDv) (@zXx))))))))
def ptOk (re cf:List Int) (i:Nat):Prop:=(1≤re.getD i 0∧re.getD i 0≤1000000000)∧(0≤cf.getD i 0∧cf.getD i 0≤100000)∧(0<i→re.getD (i - 1) 0<re.getD i 0∧cf.getD i 0≤cf.getD (i - 1) 0)
instance (re cf:List Int) (i:Nat):Decidable (ptOk re cf i):=by unfold ptOk;infer_instance
structure okL (re cf:List Int):Prop where
  n:2≤re.length∧re.length≤12
  e:cf.length=re.length
  pt : ∀ i,i<re.length→ptOk re cf i
def lineErr (re cf:List Int):Int:=if re.length<2∨12<re.length then 6 else if cf.length≠re.length then 15 else if ∀ i,i<re.length→ptOk re cf i then 0 else 2
theorem wAz {re cf:List Int} : lineErr re cf=0 ↔ okL re cf:=by
  unfold lineErr
  constructor
  · intro h
    split at h
    · cases h
    split at h
    · cases h
    split at h
    · exact ⟨by omega,by omega,by assumption⟩
    · cases h
  · rintro ⟨h1,h2,h3⟩
    rw [if_neg (by omega),if_neg (by omega),if_pos h3]
structure LineR (h:H) (a b:AV) (re cf:List Int):Prop where
  wf:Wf h
  re:Row h a 1 re.length (re.map ii)
  cf:Row h b 1 cf.length (cf.map ii)
theorem LineR.up {h:H} {a b:AV} {re cf:List Int} (x:LineR h a b re cf) (l:List AO) (w:Nat) (hw:w≤h.clock+l.length):LineR (X h l w) a b re cf:=⟨x.wf.X hw,x.re.up x.wf l w,x.cf.up x.wf l w⟩
theorem LineR.flats {h:H} {a b:AV} {re cf:List Int} (x:LineR h a b re cf):(AV.cells a=[a]∧oneB a=true)∧(AV.cells b=[b]∧oneB b=true):=⟨x.re.flat,x.cf.flat⟩
theorem yWx {h:H} (wf:Wf h) {a:AV} {l:List Int} (r:Row h a 1 l.length (l.map ii)) {i:Nat} (hi:i<l.length) : ∃ id off,indexAddrE Try.prog 22 a (.int .i64 (i:Int))=some (.ptr id off) ∧ ∀ J w,load1 id off (X h J w)=some (ii (l.getD i 0)):=by
  obtain ⟨id,off,h1,h2⟩:=(r.sl (by omega)).at1 wf hi ik_22
  refine ⟨id,off,h1,fun J w=>?_⟩
  rw [h2,List.getElem?_map]
  simp [List.getD,hi]

theorem great (a b:AV) (re cf:List Int) (h:H) (x:LineR h a b re cf):(om Try.prog KK).call (.fn 13 [.agg [a,b]]) h = .ok (.bool (decide (20<re.length∨20<cf.length))) h:=by
  have wf:=x.wf
  obtain ⟨⟨fa,fa'⟩,⟨fb,fb'⟩⟩:=x.flats
  have ha : ∀ h',lenE Try.prog 22 a h'=some (ii (re.length:Int)):=fun h'=>x.re.len yZw
  have hb : ∀ h',lenE Try.prog 22 b h'=some (ii (cf.length:Int)):=fun h'=>x.cf.len yZw
  refine zWy (zLx (fn:=Try.f13) Try.func13 rfl rfl rfl rfl rfl ?_)
  simp only [zLy]
  (repeat' (first
  | (with_reducible first|refine zJw ?_|refine zHz ?_|refine zEv ?_|refine zEw ?_|refine zFz ?_|refine zJv ?_|refine zHy ?_|refine zBv ?_|refine zDx ?_|refine zCz ?_|refine zCw ?_|refine zEy ?_|refine zCv ?_|refine zCy ?_|refine zBy ?_|refine zDv ?_|refine zEz ?_|refine zAw ?_|refine zBz ?_)
  | refine zDz ?_|refine zEx rfl ?_|refine zJy ?_|refine zJx ?_
  | ((first|refine zGv rfl rfl rfl rfl rfl fun K_ hK_=>?_|refine zGw rfl rfl rfl rfl rfl fun K_ hK_=>?_);simp only [zAz,zDy,zGx,↓reduceIte,reduceCtorEq,Nat.reduceEqDiff,Bool.not_true,Bool.not_false];refine hK_ _ ?_;clear hK_ K_)
  | refine zDw (by decide) ?_
  | ((try first|refine zKy rfl rfl rfl ?_|refine zJz rfl rfl ?_|refine zKx rfl rfl rfl ?_|refine zIv rfl rfl ?_);(refine zIw fun Q_ hQ_=>?_;simp (disch:=first|omega|(simp only [List.length_cons,List.length_nil,List.length_append];omega)) only [bb,bp,zLy,↓reduceIte,reduceCtorEq,Nat.reduceEqDiff,Nat.reduceLT,Nat.reduceLeDiff,Nat.reduceAdd,Nat.reduceMul,Nat.reduceSub,Nat.reduceBEq,Int.reduceToNat,cond_true,cond_false,eq_self,beq_self_eq_true,ha,hb,fa,fb,fa',fb',zFx wf,zGy wf,zBw wf,zFy wf,zAy wf,zAx,tEvD4,zIx,zIy,zIz,zHv,zFv,zAv wf];first|(refine zCx (Q:=Q_) (fun hp_=>?_) (fun hp_=>?_) <;> first|(exfalso;omega)|(refine hQ_ _ _ ?_;clear hQ_ Q_))|(refine zBx (Q:=Q_) (fun hp_=>?_) (fun hp_=>?_) <;> first|(exfalso;omega)|(refine hQ_ _ _ ?_;clear hQ_ Q_))|(refine hQ_ _ _ ?_;clear hQ_ Q_)))
  | (refine zHx fun K_ hK_=>?_;simp (disch:=omega) only [zGz,zAz,zHw,↓reduceIte,reduceCtorEq,Nat.reduceEqDiff,Nat.reduceLT];refine hK_ _ ?_;clear hK_ K_)))
  all_goals (refine zKz _ _ rfl (ret1 (by decide)) ?_;simp only [zAz,↓reduceIte,reduceCtorEq,Nat.reduceEqDiff];refine zKw rfl (by omega) ?_)
  all_goals exact ⟨by congr 1;first|(rw [decide_eq_true];omega)|(rw [decide_eq_false];omega)|(congr 1;apply propext;omega),rfl⟩

theorem arePoints (a b:AV) (re cf:List Int) (h:H) (x:LineR h a b re cf) (hn:re.length≤12) (he:cf.length=re.length) :
    (om Try.prog KK).call (.fn 41 [.agg [a,b]]) h = .ok (.bool (decide (∀ i,i<re.length→ptOk re cf i))) h:=by
  have wf:=x.wf
  obtain ⟨⟨fa,fa'⟩,⟨fb,fb'⟩⟩:=x.flats
  have ha : ∀ h',lenE Try.prog 22 a h'=some (ii (re.length:Int)):=fun h'=>x.re.len yZw
  refine zWy (zLx (fn:=Try.f41) Try.func41 rfl rfl rfl rfl rfl ?_)
  simp only [zLy]
  (repeat' (first
  | (with_reducible first|refine zJw ?_|refine zHz ?_|refine zEv ?_|refine zEw ?_|refine zFz ?_|refine zJv ?_|refine zHy ?_|refine zBv ?_|refine zDx ?_|refine zCz ?_|refine zCw ?_|refine zEy ?_|refine zCv ?_|refine zCy ?_|refine zBy ?_|refine zDv ?_|refine zEz ?_|refine zAw ?_|refine zBz ?_)
  | refine zDz ?_|refine zEx rfl ?_|refine zJy ?_|refine zJx ?_
  | ((first|refine zGv rfl rfl rfl rfl rfl fun K_ hK_=>?_|refine zGw rfl rfl rfl rfl rfl fun K_ hK_=>?_);simp only [zAz,zDy,zGx,↓reduceIte,reduceCtorEq,Nat.reduceEqDiff,Bool.not_true,Bool.not_false];refine hK_ _ ?_;clear hK_ K_)
  | refine zDw (by decide) ?_
  | ((try first|refine zKy rfl rfl rfl ?_|refine zJz rfl rfl ?_|refine zKx rfl rfl rfl ?_|refine zIv rfl rfl ?_);(refine zIw fun Q_ hQ_=>?_;simp (disch:=first|omega|(simp only [List.length_cons,List.length_nil,List.length_append];omega)) only [bb,bp,zLy,↓reduceIte,reduceCtorEq,Nat.reduceEqDiff,Nat.reduceLT,Nat.reduceLeDiff,Nat.reduceAdd,Nat.reduceMul,Nat.reduceSub,Nat.reduceBEq,Int.reduceToNat,cond_true,cond_false,eq_self,beq_self_eq_true,ha,fa,fb,fa',fb',zFx wf,zGy wf,zBw wf,zFy wf,zAy wf,zAx,tEvD4,zIx,zIy,zIz,zHv,zFv,zAv wf];first|(refine zCx (Q:=Q_) (fun hp_=>?_) (fun hp_=>?_) <;> first|(exfalso;omega)|(refine hQ_ _ _ ?_;clear hQ_ Q_))|(refine zBx (Q:=Q_) (fun hp_=>?_) (fun hp_=>?_) <;> first|(exfalso;omega)|(refine hQ_ _ _ ?_;clear hQ_ Q_))|(refine hQ_ _ _ ?_;clear hQ_ Q_)))
  | (refine zHx fun K_ hK_=>?_;simp (disch:=omega) only [zGz,zAz,zHw,↓reduceIte,reduceCtorEq,Nat.reduceEqDiff,Nat.reduceLT];refine hK_ _ ?_;clear hK_ K_)))
  refine zVw (fun (i:Nat) f d h'=>i≤re.length∧(∀ j,j<i→ptOk re cf j)∧f 1 = .ptr (nx h 0) 0∧f 6=ii (re.length:Int)∧f 7=ii (i:Int)∧d=[] ∧
    ∃ G,h'=X h (.cells (zFw [a,b]) 24 :: G) h.clock) (fun i=>re.length - i) ?_ (re.length+1) 0 (by omega) ?_
  · rintro i f d h' ⟨hi,hall,g1,g6,g7,rfl,G,rfl⟩
    by_cases hlt:i<re.length
    · obtain ⟨ia,oa,hxa,hla⟩:=yWx wf x.re hlt
      obtain ⟨ib,ob,hxb,hlb⟩:=yWx wf x.cf (i:=i) (by omega)
      have hpt:ptOk re cf i ↔ ((1≤re.getD i 0∧re.getD i 0≤1000000000)∧(0≤cf.getD i 0∧cf.getD i 0≤100000)∧(0<i→re.getD (i - 1) 0<re.getD i 0∧cf.getD i 0≤cf.getD (i - 1) 0)):=Iff.rfl
      generalize hri:re.getD i 0=r at *
      generalize hci:cf.getD i 0=c at *
      (repeat' (first
  | (with_reducible first|refine zJw ?_|refine zHz ?_|refine zEv ?_|refine zEw ?_|refine zFz ?_|refine zJv ?_|refine zHy ?_|refine zBv ?_|refine zDx ?_|refine zCz ?_|refine zCw ?_|refine zEy ?_|refine zCv ?_|refine zCy ?_|refine zBy ?_|refine zDv ?_|refine zEz ?_|refine zAw ?_|refine zBz ?_)
  | refine zDz ?_|refine zEx rfl ?_|refine zJy ?_|refine zJx ?_
  | ((first|refine zGv rfl rfl rfl rfl rfl fun K_ hK_=>?_|refine zGw rfl rfl rfl rfl rfl fun K_ hK_=>?_);simp only [zAz,zDy,zGx,↓reduceIte,reduceCtorEq,Nat.reduceEqDiff,Bool.not_true,Bool.not_false];refine hK_ _ ?_;clear hK_ K_)
  | refine zDw (by decide) ?_
  | ((try first|refine zKy rfl rfl rfl ?_|refine zJz rfl rfl ?_|refine zKx rfl rfl rfl ?_|refine zIv rfl rfl ?_);(refine zIw fun Q_ hQ_=>?_;simp (disch:=first|omega|(simp only [List.length_cons,List.length_nil,List.length_append];omega)) only [bb,bp,zLy,↓reduceIte,reduceCtorEq,Nat.reduceEqDiff,Nat.reduceLT,Nat.reduceLeDiff,Nat.reduceAdd,Nat.reduceMul,Nat.reduceSub,Nat.reduceBEq,Int.reduceToNat,cond_true,cond_false,eq_self,beq_self_eq_true,g1,g6,g7,zFx wf,zGy wf,zBw wf,zFy wf,zAy wf,zAx,tEvD4,zIx,zIy,zIz,zHv,zFv,zAv wf];first|(refine zCx (Q:=Q_) (fun hp_=>?_) (fun hp_=>?_) <;> first|(exfalso;omega)|(refine hQ_ _ _ ?_;clear hQ_ Q_))|(refine zBx (Q:=Q_) (fun hp_=>?_) (fun hp_=>?_) <;> first|(exfalso;omega)|(refine hQ_ _ _ ?_;clear hQ_ Q_))|(refine hQ_ _ _ ?_;clear hQ_ Q_)))
  | (refine zHx fun K_ hK_=>?_;simp (disch:=omega) only [zGz,zAz,zHw,↓reduceIte,reduceCtorEq,Nat.reduceEqDiff,Nat.reduceLT];refine hK_ _ ?_;clear hK_ K_)))
      refine zLv [.no,.no,.no,.no,.no,.no,.no,.no,.no,.no,.no,.no,.full,.full,.full,.full,.full] (by kernel_rfl) ?_
      have c1 : ∀ n l w,w≤h.clock+l.length→(om Try.prog KK).call (.fn 52 [ii n]) (X h l w) = .ok (.agg [ii n,ii n]) (X h l w):=fun n l w hw=>one n _ (wf.X hw)
      have c2 : ∀ w,w≤h.clock+(G.length+1+1)→(om Try.prog KK).call (.fn 51 [.sl (nx h (G.length+1)) 0 2 (some 2) 4]) (X h (.cells (zFw [a,b]) 24 :: (G++[.cells (zFw [ii r,ii r,ii 1,ii 1000000000,ii c,ii c,ii 0,ii 100000]) 87])) w) = .ok (.bool (decide ((1≤r∧r≤1000000000)∧(0≤c∧c≤100000)))) (X h (.cells (zFw [a,b]) 24 :: (G++[.cells (zFw [ii r,ii r,ii 1,ii 1000000000,ii c,ii c,ii 0,ii 100000]) 87])) w):=fun w hw=>by
        refine (areKept _ [(r,r,1,1000000000),(c,c,0,100000)] (by simp) _ (wf.X (by simp only [List.length_append,List.length_cons,List.length_nil];omega)) (Sl.new (cells:=[ii r,ii r,ii 1,ii 1000000000,ii c,ii c,ii 0,ii 100000]) wf (k:=G.length+1) rfl (by rw [List.getElem?_cons_succ,app_len0];rfl))).trans ?_
        congr 2
        apply decide_eq_decide.2
        simp only [List.mem_cons,List.not_mem_nil,or_false,forall_eq_or_imp,forall_eq,kept]
        omega
      (repeat' (first
  | (with_reducible first|refine zJw ?_|refine zHz ?_|refine zEv ?_|refine zEw ?_|refine zFz ?_|refine zJv ?_|refine zHy ?_|refine zBv ?_|refine zDx ?_|refine zCz ?_|refine zCw ?_|refine zEy ?_|refine zCv ?_|refine zCy ?_|refine zBy ?_|refine zDv ?_|refine zEz ?_|refine zAw ?_|refine zBz ?_)
  | refine zDz ?_|refine zEx rfl ?_|refine zJy ?_|refine zJx ?_
  | ((first|refine zGv rfl rfl rfl rfl rfl fun K_ hK_=>?_|refine zGw rfl rfl rfl rfl rfl fun K_ hK_=>?_);simp only [zAz,zDy,zGx,↓reduceIte,reduceCtorEq,Nat.reduceEqDiff,Bool.not_true,Bool.not_false];refine hK_ _ ?_;clear hK_ K_)
  | refine zDw (by decide) ?_
  | ((try first|refine zKy rfl rfl rfl ?_|refine zJz rfl rfl ?_|refine zKx rfl rfl rfl ?_|refine zIv rfl rfl ?_);(refine zIw fun Q_ hQ_=>?_;simp (disch:=first|omega|(simp only [List.length_cons,List.length_nil,List.length_append];omega)) only [bb,bp,zLy,↓reduceIte,reduceCtorEq,Nat.reduceEqDiff,Nat.reduceLT,Nat.reduceLeDiff,Nat.reduceAdd,Nat.reduceMul,Nat.reduceSub,Nat.reduceBEq,Int.reduceToNat,cond_true,cond_false,eq_self,beq_self_eq_true,g1,g6,g7,hxa,hla,hxb,hlb,c1,c2,zFx wf,zGy wf,zBw wf,zFy wf,zAy wf,zAx,tEvD4,zIx,zIy,zIz,zHv,zFv,zAv wf];first|(refine zCx (Q:=Q_) (fun hp_=>?_) (fun hp_=>?_) <;> first|(exfalso;omega)|(refine hQ_ _ _ ?_;clear hQ_ Q_))|(refine zBx (Q:=Q_) (fun hp_=>?_) (fun hp_=>?_) <;> first|(exfalso;omega)|(refine hQ_ _ _ ?_;clear hQ_ Q_))|(refine hQ_ _ _ ?_;clear hQ_ Q_)))
  | (refine zHx fun K_ hK_=>?_;simp (disch:=omega) only [zGz,zAz,zHw,↓reduceIte,reduceCtorEq,Nat.reduceEqDiff,Nat.reduceLT];refine hK_ _ ?_;clear hK_ K_)))
      · have hp:(1≤r∧r≤1000000000)∧0≤c∧c≤100000:=by assumption
        by_cases hi0:0<i
        · obtain ⟨ip,op,hxp,hlp⟩:=yWx wf x.re (i:=i - 1) (by omega)
          obtain ⟨iq,oq,hxq,hlq⟩:=yWx wf x.cf (i:=i - 1) (by omega)
          rw [show ((i - 1:Nat):Int)=(i:Int) - 1 from by omega] at hxp hxq
          generalize hrp:re.getD (i - 1) 0=rp at *
          generalize hcp:cf.getD (i - 1) 0=cp at *
          refine zLv [.full,.full,.full,.no,.no,.no,.no,.no,.no,.no,.no,.no,.no,.no,.full,.full,.no,.no,.no,.no,.no,.no,.no,.no,.no,.no,.no,.full,.full,.full] (by kernel_rfl) ?_
          (repeat' (first
  | (with_reducible first|refine zJw ?_|refine zHz ?_|refine zEv ?_|refine zEw ?_|refine zFz ?_|refine zJv ?_|refine zHy ?_|refine zBv ?_|refine zDx ?_|refine zCz ?_|refine zCw ?_|refine zEy ?_|refine zCv ?_|refine zCy ?_|refine zBy ?_|refine zDv ?_|refine zEz ?_|refine zAw ?_|refine zBz ?_)
  | refine zDz ?_|refine zEx rfl ?_|refine zJy ?_|refine zJx ?_
  | ((first|refine zGv rfl rfl rfl rfl rfl fun K_ hK_=>?_|refine zGw rfl rfl rfl rfl rfl fun K_ hK_=>?_);simp only [zAz,zDy,zGx,↓reduceIte,reduceCtorEq,Nat.reduceEqDiff,Bool.not_true,Bool.not_false];refine hK_ _ ?_;clear hK_ K_)
  | refine zDw (by decide) ?_
  | ((try first|refine zKy rfl rfl rfl ?_|refine zJz rfl rfl ?_|refine zKx rfl rfl rfl ?_|refine zIv rfl rfl ?_);(refine zIw fun Q_ hQ_=>?_;simp (disch:=first|omega|(simp only [List.length_cons,List.length_nil,List.length_append];omega)) only [bb,bp,zLy,↓reduceIte,reduceCtorEq,Nat.reduceEqDiff,Nat.reduceLT,Nat.reduceLeDiff,Nat.reduceAdd,Nat.reduceMul,Nat.reduceSub,Nat.reduceBEq,Int.reduceToNat,cond_true,cond_false,eq_self,beq_self_eq_true,g1,g6,g7,hxa,hla,hxb,hlb,hxp,hlp,hxq,hlq,zFx wf,zGy wf,zBw wf,zFy wf,zAy wf,zAx,tEvD4,zIx,zIy,zIz,zHv,zFv,zAv wf];first|(refine zCx (Q:=Q_) (fun hp_=>?_) (fun hp_=>?_) <;> first|(exfalso;omega)|(refine hQ_ _ _ ?_;clear hQ_ Q_))|(refine zBx (Q:=Q_) (fun hp_=>?_) (fun hp_=>?_) <;> first|(exfalso;omega)|(refine hQ_ _ _ ?_;clear hQ_ Q_))|(refine hQ_ _ _ ?_;clear hQ_ Q_)))
  | (refine zHx fun K_ hK_=>?_;simp (disch:=omega) only [zGz,zAz,zHw,↓reduceIte,reduceCtorEq,Nat.reduceEqDiff,Nat.reduceLT];refine hK_ _ ?_;clear hK_ K_)))
          · (refine zKz _ _ rfl (ret1 (by decide)) ?_;simp only [zAz,↓reduceIte,reduceCtorEq,Nat.reduceEqDiff];refine zKw rfl (by omega) ?_)
            exact ⟨by rw [decide_eq_false];intro hh;have:=hpt.1 (hh i hlt);omega,rfl⟩
          · (refine zKz _ _ rfl (ret1 (by decide)) ?_;simp only [zAz,↓reduceIte,reduceCtorEq,Nat.reduceEqDiff];refine zKw rfl (by omega) ?_)
            exact ⟨by rw [decide_eq_false];intro hh;have:=hpt.1 (hh i hlt);omega,rfl⟩
          · refine zLz (i+1) (by omega) ⟨hlt,fun j hj=>?_,by simp only [zAz,↓reduceIte,reduceCtorEq,Nat.reduceEqDiff];exact g1,by simp only [zAz,↓reduceIte,reduceCtorEq,Nat.reduceEqDiff];exact g6,by simp only [zAz,↓reduceIte,reduceCtorEq,Nat.reduceEqDiff];rfl,rfl,_,rfl⟩
            by_cases hji:j=i
            · rw [hji];exact hpt.2 ⟨hp.1,hp.2,fun _=>by omega⟩
            · exact hall j (by omega)
        · refine zLv [.full,.full,.full,.no,.no,.no,.no,.no,.no,.no,.no,.no,.no,.no,.full,.full,.no,.no,.no,.no,.no,.no,.no,.no,.no,.no,.no,.full,.full,.full] (by kernel_rfl) ?_
          (repeat' (first
  | (with_reducible first|refine zJw ?_|refine zHz ?_|refine zEv ?_|refine zEw ?_|refine zFz ?_|refine zJv ?_|refine zHy ?_|refine zBv ?_|refine zDx ?_|refine zCz ?_|refine zCw ?_|refine zEy ?_|refine zCv ?_|refine zCy ?_|refine zBy ?_|refine zDv ?_|refine zEz ?_|refine zAw ?_|refine zBz ?_)
  | refine zDz ?_|refine zEx rfl ?_|refine zJy ?_|refine zJx ?_
  | ((first|refine zGv rfl rfl rfl rfl rfl fun K_ hK_=>?_|refine zGw rfl rfl rfl rfl rfl fun K_ hK_=>?_);simp only [zAz,zDy,zGx,↓reduceIte,reduceCtorEq,Nat.reduceEqDiff,Bool.not_true,Bool.not_false];refine hK_ _ ?_;clear hK_ K_)
  | refine zDw (by decide) ?_
  | ((try first|refine zKy rfl rfl rfl ?_|refine zJz rfl rfl ?_|refine zKx rfl rfl rfl ?_|refine zIv rfl rfl ?_);(refine zIw fun Q_ hQ_=>?_;simp (disch:=first|omega|(simp only [List.length_cons,List.length_nil,List.length_append];omega)) only [bb,bp,zLy,↓reduceIte,reduceCtorEq,Nat.reduceEqDiff,Nat.reduceLT,Nat.reduceLeDiff,Nat.reduceAdd,Nat.reduceMul,Nat.reduceSub,Nat.reduceBEq,Int.reduceToNat,cond_true,cond_false,eq_self,beq_self_eq_true,g1,g6,g7,hxa,hla,hxb,hlb,zFx wf,zGy wf,zBw wf,zFy wf,zAy wf,zAx,tEvD4,zIx,zIy,zIz,zHv,zFv,zAv wf];first|(refine zCx (Q:=Q_) (fun hp_=>?_) (fun hp_=>?_) <;> first|(exfalso;omega)|(refine hQ_ _ _ ?_;clear hQ_ Q_))|(refine zBx (Q:=Q_) (fun hp_=>?_) (fun hp_=>?_) <;> first|(exfalso;omega)|(refine hQ_ _ _ ?_;clear hQ_ Q_))|(refine hQ_ _ _ ?_;clear hQ_ Q_)))
  | (refine zHx fun K_ hK_=>?_;simp (disch:=omega) only [zGz,zAz,zHw,↓reduceIte,reduceCtorEq,Nat.reduceEqDiff,Nat.reduceLT];refine hK_ _ ?_;clear hK_ K_)))
          refine zLz (i+1) (by omega) ⟨hlt,fun j hj=>?_,by simp only [zAz,↓reduceIte,reduceCtorEq,Nat.reduceEqDiff];exact g1,by simp only [zAz,↓reduceIte,reduceCtorEq,Nat.reduceEqDiff];exact g6,by simp only [zAz,↓reduceIte,reduceCtorEq,Nat.reduceEqDiff];rfl,rfl,_,rfl⟩
          by_cases hji:j=i
          · rw [hji];exact hpt.2 ⟨hp.1,hp.2,fun h=>absurd h hi0⟩
          · exact hall j (by omega)
      · (refine zKz _ _ rfl (ret1 (by decide)) ?_;simp only [zAz,↓reduceIte,reduceCtorEq,Nat.reduceEqDiff];refine zKw rfl (by omega) ?_)
        exact ⟨by rw [decide_eq_false];intro hh;have:=hpt.1 (hh i hlt);omega,rfl⟩
    · have hie:i=re.length:=by omega
      subst hie
      (repeat' (first
  | (with_reducible first|refine zJw ?_|refine zHz ?_|refine zEv ?_|refine zEw ?_|refine zFz ?_|refine zJv ?_|refine zHy ?_|refine zBv ?_|refine zDx ?_|refine zCz ?_|refine zCw ?_|refine zEy ?_|refine zCv ?_|refine zCy ?_|refine zBy ?_|refine zDv ?_|refine zEz ?_|refine zAw ?_|refine zBz ?_)
  | refine zDz ?_|refine zEx rfl ?_|refine zJy ?_|refine zJx ?_
  | ((first|refine zGv rfl rfl rfl rfl rfl fun K_ hK_=>?_|refine zGw rfl rfl rfl rfl rfl fun K_ hK_=>?_);simp only [zAz,zDy,zGx,↓reduceIte,reduceCtorEq,Nat.reduceEqDiff,Bool.not_true,Bool.not_false];refine hK_ _ ?_;clear hK_ K_)
  | refine zDw (by decide) ?_
  | ((try first|refine zKy rfl rfl rfl ?_|refine zJz rfl rfl ?_|refine zKx rfl rfl rfl ?_|refine zIv rfl rfl ?_);(refine zIw fun Q_ hQ_=>?_;simp (disch:=first|omega|(simp only [List.length_cons,List.length_nil,List.length_append];omega)) only [bb,bp,zLy,↓reduceIte,reduceCtorEq,Nat.reduceEqDiff,Nat.reduceLT,Nat.reduceLeDiff,Nat.reduceAdd,Nat.reduceMul,Nat.reduceSub,Nat.reduceBEq,Int.reduceToNat,cond_true,cond_false,eq_self,beq_self_eq_true,g1,g6,g7,zFx wf,zGy wf,zBw wf,zFy wf,zAy wf,zAx,tEvD4,zIx,zIy,zIz,zHv,zFv,zAv wf];first|(refine zCx (Q:=Q_) (fun hp_=>?_) (fun hp_=>?_) <;> first|(exfalso;omega)|(refine hQ_ _ _ ?_;clear hQ_ Q_))|(refine zBx (Q:=Q_) (fun hp_=>?_) (fun hp_=>?_) <;> first|(exfalso;omega)|(refine hQ_ _ _ ?_;clear hQ_ Q_))|(refine hQ_ _ _ ?_;clear hQ_ Q_)))
  | (refine zHx fun K_ hK_=>?_;simp (disch:=omega) only [zGz,zAz,zHw,↓reduceIte,reduceCtorEq,Nat.reduceEqDiff,Nat.reduceLT];refine hK_ _ ?_;clear hK_ K_)))
      (refine zKz _ _ rfl (ret1 (by decide)) ?_;simp only [zAz,↓reduceIte,reduceCtorEq,Nat.reduceEqDiff];refine zKw rfl (by omega) ?_)
      exact ⟨by rw [decide_eq_true hall],rfl⟩
  · exact ⟨Nat.zero_le _,fun j hj=>absurd hj (Nat.not_lt_zero j),by simp only [zAz,↓reduceIte,reduceCtorEq,Nat.reduceEqDiff],by simp only [zAz,↓reduceIte,reduceCtorEq,Nat.reduceEqDiff],by simp only [zAz,↓reduceIte,reduceCtorEq,Nat.reduceEqDiff];rfl,rfl,[],rfl⟩

theorem CheckLine (a b:AV) (re cf:List Int) (h:H) (x:LineR h a b re cf):(om Try.prog KK).call (.fn 17 [.agg [a,b]]) h = .ok (ii (lineErr re cf)) h:=by
  have wf:=x.wf
  obtain ⟨⟨fa,fa'⟩,⟨fb,fb'⟩⟩:=x.flats
  have ha : ∀ h',lenE Try.prog 22 a h'=some (ii (re.length:Int)):=fun h'=>x.re.len yZw
  have hb : ∀ h',lenE Try.prog 22 b h'=some (ii (cf.length:Int)):=fun h'=>x.cf.len yZw
  refine zWy (zLx (fn:=Try.f17) Try.func17 rfl rfl rfl rfl rfl ?_)
  simp only [zLy]
  (repeat' (first
  | (with_reducible first|refine zJw ?_|refine zHz ?_|refine zEv ?_|refine zEw ?_|refine zFz ?_|refine zJv ?_|refine zHy ?_|refine zBv ?_|refine zDx ?_|refine zCz ?_|refine zCw ?_|refine zEy ?_|refine zCv ?_|refine zCy ?_|refine zBy ?_|refine zDv ?_|refine zEz ?_|refine zAw ?_|refine zBz ?_)
  | refine zDz ?_|refine zEx rfl ?_|refine zJy ?_|refine zJx ?_
  | ((first|refine zGv rfl rfl rfl rfl rfl fun K_ hK_=>?_|refine zGw rfl rfl rfl rfl rfl fun K_ hK_=>?_);simp only [zAz,zDy,zGx,↓reduceIte,reduceCtorEq,Nat.reduceEqDiff,Bool.not_true,Bool.not_false];refine hK_ _ ?_;clear hK_ K_)
  | refine zDw (by decide) ?_
  | ((try first|refine zKy rfl rfl rfl ?_|refine zJz rfl rfl ?_|refine zKx rfl rfl rfl ?_|refine zIv rfl rfl ?_);(refine zIw fun Q_ hQ_=>?_;simp (disch:=first|omega|(simp only [List.length_cons,List.length_nil,List.length_append];omega)) only [bb,bp,zLy,↓reduceIte,reduceCtorEq,Nat.reduceEqDiff,Nat.reduceLT,Nat.reduceLeDiff,Nat.reduceAdd,Nat.reduceMul,Nat.reduceSub,Nat.reduceBEq,Int.reduceToNat,cond_true,cond_false,eq_self,beq_self_eq_true,ha,hb,fa,fb,fa',fb',zFx wf,zGy wf,zBw wf,zFy wf,zAy wf,zAx,tEvD4,zIx,zIy,zIz,zHv,zFv,zAv wf];first|(refine zCx (Q:=Q_) (fun hp_=>?_) (fun hp_=>?_) <;> first|(exfalso;omega)|(refine hQ_ _ _ ?_;clear hQ_ Q_))|(refine zBx (Q:=Q_) (fun hp_=>?_) (fun hp_=>?_) <;> first|(exfalso;omega)|(refine hQ_ _ _ ?_;clear hQ_ Q_))|(refine hQ_ _ _ ?_;clear hQ_ Q_)|(refine zRv (arePoints a b re cf _ (x.up _ _ (by simp only [List.length_append,List.length_cons,List.length_nil];omega)) (by omega) (by omega)) ?_;refine hQ_ _ _ ?_;clear hQ_ Q_)))
  | (refine zHx fun K_ hK_=>?_;simp (disch:=omega) only [zGz,zAz,zHw,↓reduceIte,reduceCtorEq,Nat.reduceEqDiff,Nat.reduceLT];refine hK_ _ ?_;clear hK_ K_)))
  all_goals (refine zKz _ _ rfl (ret1 (by decide)) ?_;simp only [zAz,↓reduceIte,reduceCtorEq,Nat.reduceEqDiff];refine zKw rfl (by omega) ?_)
  all_goals refine ⟨congrArg ii ?_,rfl⟩
  all_goals (unfold lineErr;repeat' split)
  all_goals first|rfl|(exfalso;omega)|contradiction

theorem refCheckLine (a b:AV) (re cf:List Int) (h:H) (x:LineR h a b re cf):(om Try.prog KK).call (.fn 18 [.agg [a,b]]) h = .ok (ii (lineErr re cf)) h:=by
  have wf:=x.wf
  obtain ⟨⟨fa,fa'⟩,⟨fb,fb'⟩⟩:=x.flats
  have ha : ∀ h',lenE Try.prog 22 a h'=some (ii (re.length:Int)):=fun h'=>x.re.len yZw
  have hb : ∀ h',lenE Try.prog 22 b h'=some (ii (cf.length:Int)):=fun h'=>x.cf.len yZw
  refine zWy (zLx (fn:=Try.f18) Try.func18 rfl rfl rfl rfl rfl ?_)
  simp only [zLy]
  (repeat' (first
  | (with_reducible first|refine zJw ?_|refine zHz ?_|refine zEv ?_|refine zEw ?_|refine zFz ?_|refine zJv ?_|refine zHy ?_|refine zBv ?_|refine zDx ?_|refine zCz ?_|refine zCw ?_|refine zEy ?_|refine zCv ?_|refine zCy ?_|refine zBy ?_|refine zDv ?_|refine zEz ?_|refine zAw ?_|refine zBz ?_)
  | refine zDz ?_|refine zEx rfl ?_|refine zJy ?_|refine zJx ?_
  | ((first|refine zGv rfl rfl rfl rfl rfl fun K_ hK_=>?_|refine zGw rfl rfl rfl rfl rfl fun K_ hK_=>?_);simp only [zAz,zDy,zGx,↓reduceIte,reduceCtorEq,Nat.reduceEqDiff,Bool.not_true,Bool.not_false];refine hK_ _ ?_;clear hK_ K_)
  | refine zDw (by decide) ?_
  | ((try first|refine zKy rfl rfl rfl ?_|refine zJz rfl rfl ?_|refine zKx rfl rfl rfl ?_|refine zIv rfl rfl ?_);(refine zIw fun Q_ hQ_=>?_;simp (disch:=first|omega|(simp only [List.length_cons,List.length_nil,List.length_append];omega)) only [bb,bp,zLy,↓reduceIte,reduceCtorEq,Nat.reduceEqDiff,Nat.reduceLT,Nat.reduceLeDiff,Nat.reduceAdd,Nat.reduceMul,Nat.reduceSub,Nat.reduceBEq,Int.reduceToNat,cond_true,cond_false,eq_self,beq_self_eq_true,ha,hb,fa,fb,fa',fb',zFx wf,zGy wf,zBw wf,zFy wf,zAy wf,zAx,tEvD4,zIx,zIy,zIz,zHv,zFv,zAv wf];first|(refine zCx (Q:=Q_) (fun hp_=>?_) (fun hp_=>?_) <;> first|(exfalso;omega)|(refine hQ_ _ _ ?_;clear hQ_ Q_))|(refine zBx (Q:=Q_) (fun hp_=>?_) (fun hp_=>?_) <;> first|(exfalso;omega)|(refine hQ_ _ _ ?_;clear hQ_ Q_))|(refine hQ_ _ _ ?_;clear hQ_ Q_)))
  | (refine zHx fun K_ hK_=>?_;simp (disch:=omega) only [zGz,zAz,zHw,↓reduceIte,reduceCtorEq,Nat.reduceEqDiff,Nat.reduceLT];refine hK_ _ ?_;clear hK_ K_)))
  · (refine zKz _ _ rfl (ret1 (by decide)) ?_;simp only [zAz,↓reduceIte,reduceCtorEq,Nat.reduceEqDiff];refine zKw rfl (by omega) ?_)
    refine ⟨congrArg ii ?_,rfl⟩
    unfold lineErr
    rw [if_pos (by omega)]
  · (refine zKz _ _ rfl (ret1 (by decide)) ?_;simp only [zAz,↓reduceIte,reduceCtorEq,Nat.reduceEqDiff];refine zKw rfl (by omega) ?_)
    refine ⟨congrArg ii ?_,rfl⟩
    unfold lineErr
    rw [if_pos (by omega)]
  · refine zVw (fun (i:Nat) f d h'=>i≤re.length∧(∀ j,j<i→ptOk re cf j)∧f 1 = .ptr (nx h 0) 0∧f 3=ii (i:Int)∧d=[] ∧
      h'=X h [.cells (zFw [a,b]) 24] h.clock) (fun i=>re.length - i) ?_ (re.length+1) 0 (by omega) ?_
    · rintro i f d h' ⟨hi,hall,g1,g3,rfl,rfl⟩
      by_cases hlt:i<re.length
      · obtain ⟨ia,oa,hxa,hla⟩:=yWx wf x.re hlt
        obtain ⟨ib,ob,hxb,hlb⟩:=yWx wf x.cf (i:=i) (by omega)
        have hpt:ptOk re cf i ↔ ((1≤re.getD i 0∧re.getD i 0≤1000000000)∧(0≤cf.getD i 0∧cf.getD i 0≤100000)∧(0<i→re.getD (i - 1) 0<re.getD i 0∧cf.getD i 0≤cf.getD (i - 1) 0)):=Iff.rfl
        generalize hri:re.getD i 0=r at *
        generalize hci:cf.getD i 0=c at *
        have c1 : ∀ n u v l w,w≤h.clock+l.length→(om Try.prog KK).call (.fn 42 [ii n,ii u,ii v]) (X h l w) = .ok (.bool (decide (u≤n∧n≤v))) (X h l w):=fun n u v l w hw=>between n u v _ (wf.X hw)
        by_cases hi0:0<i
        · obtain ⟨ip,op,hxp,hlp⟩:=yWx wf x.re (i:=i - 1) (by omega)
          obtain ⟨iq,oq,hxq,hlq⟩:=yWx wf x.cf (i:=i - 1) (by omega)
          rw [show ((i - 1:Nat):Int)=(i:Int) - 1 from by omega] at hxp hxq
          generalize hrp:re.getD (i - 1) 0=rp at *
          generalize hcp:cf.getD (i - 1) 0=cp at *
          (repeat' (first
  | (with_reducible first|refine zJw ?_|refine zHz ?_|refine zEv ?_|refine zEw ?_|refine zFz ?_|refine zJv ?_|refine zHy ?_|refine zBv ?_|refine zDx ?_|refine zCz ?_|refine zCw ?_|refine zEy ?_|refine zCv ?_|refine zCy ?_|refine zBy ?_|refine zDv ?_|refine zEz ?_|refine zAw ?_|refine zBz ?_)
  | refine zDz ?_|refine zEx rfl ?_|refine zJy ?_|refine zJx ?_
  | ((first|refine zGv rfl rfl rfl rfl rfl fun K_ hK_=>?_|refine zGw rfl rfl rfl rfl rfl fun K_ hK_=>?_);simp only [zAz,zDy,zGx,↓reduceIte,reduceCtorEq,Nat.reduceEqDiff,Bool.not_true,Bool.not_false];refine hK_ _ ?_;clear hK_ K_)
  | refine zDw (by decide) ?_
  | ((try first|refine zKy rfl rfl rfl ?_|refine zJz rfl rfl ?_|refine zKx rfl rfl rfl ?_|refine zIv rfl rfl ?_);(refine zIw fun Q_ hQ_=>?_;simp (disch:=first|omega|(simp only [List.length_cons,List.length_nil,List.length_append];omega)) only [bb,bp,zLy,↓reduceIte,reduceCtorEq,Nat.reduceEqDiff,Nat.reduceLT,Nat.reduceLeDiff,Nat.reduceAdd,Nat.reduceMul,Nat.reduceSub,Nat.reduceBEq,Int.reduceToNat,cond_true,cond_false,eq_self,beq_self_eq_true,g1,g3,ha,zFx wf,zGy wf,zBw wf,zFy wf,zAy wf,zAx,tEvD4,zIx,zIy,zIz,zHv,zFv,zAv wf];first|(refine zCx (Q:=Q_) (fun hp_=>?_) (fun hp_=>?_) <;> first|(exfalso;omega)|(refine hQ_ _ _ ?_;clear hQ_ Q_))|(refine zBx (Q:=Q_) (fun hp_=>?_) (fun hp_=>?_) <;> first|(exfalso;omega)|(refine hQ_ _ _ ?_;clear hQ_ Q_))|(refine hQ_ _ _ ?_;clear hQ_ Q_)))
  | (refine zHx fun K_ hK_=>?_;simp (disch:=omega) only [zGz,zAz,zHw,↓reduceIte,reduceCtorEq,Nat.reduceEqDiff,Nat.reduceLT];refine hK_ _ ?_;clear hK_ K_)))
          refine zLv [.full,.full,.no,.full,.full,.full,.full,.full,.full,.full,.no,.full,.full,.full,.full,.full,.full,.full,.full,.full,.no,.no,.no,.no,.no,.no,.no,.no,.no,.no,.no,.full,.full,.no,.no,.no,.no,.no,.no,.no,.no,.no,.no,.no,.full,.full,.full,.full] (by kernel_rfl) ?_
          (repeat' (first
  | (with_reducible first|refine zJw ?_|refine zHz ?_|refine zEv ?_|refine zEw ?_|refine zFz ?_|refine zJv ?_|refine zHy ?_|refine zBv ?_|refine zDx ?_|refine zCz ?_|refine zCw ?_|refine zEy ?_|refine zCv ?_|refine zCy ?_|refine zBy ?_|refine zDv ?_|refine zEz ?_|refine zAw ?_|refine zBz ?_)
  | refine zDz ?_|refine zEx rfl ?_|refine zJy ?_|refine zJx ?_
  | ((first|refine zGv rfl rfl rfl rfl rfl fun K_ hK_=>?_|refine zGw rfl rfl rfl rfl rfl fun K_ hK_=>?_);simp only [zAz,zDy,zGx,↓reduceIte,reduceCtorEq,Nat.reduceEqDiff,Bool.not_true,Bool.not_false];refine hK_ _ ?_;clear hK_ K_)
  | refine zDw (by decide) ?_
  | ((try first|refine zKy rfl rfl rfl ?_|refine zJz rfl rfl ?_|refine zKx rfl rfl rfl ?_|refine zIv rfl rfl ?_);(refine zIw fun Q_ hQ_=>?_;simp (disch:=first|omega|(simp only [List.length_cons,List.length_nil,List.length_append];omega)) only [bb,bp,zLy,↓reduceIte,reduceCtorEq,Nat.reduceEqDiff,Nat.reduceLT,Nat.reduceLeDiff,Nat.reduceAdd,Nat.reduceMul,Nat.reduceSub,Nat.reduceBEq,Int.reduceToNat,cond_true,cond_false,eq_self,beq_self_eq_true,g1,g3,hxa,hla,hxb,hlb,hxp,hlp,hxq,hlq,c1,zFx wf,zGy wf,zBw wf,zFy wf,zAy wf,zAx,tEvD4,zIx,zIy,zIz,zHv,zFv,zAv wf];first|(refine zCx (Q:=Q_) (fun hp_=>?_) (fun hp_=>?_) <;> first|(exfalso;omega)|(refine hQ_ _ _ ?_;clear hQ_ Q_))|(refine zBx (Q:=Q_) (fun hp_=>?_) (fun hp_=>?_) <;> first|(exfalso;omega)|(refine hQ_ _ _ ?_;clear hQ_ Q_))|(refine hQ_ _ _ ?_;clear hQ_ Q_)))
  | (refine zHx fun K_ hK_=>?_;simp (disch:=omega) only [zGz,zAz,zHw,↓reduceIte,reduceCtorEq,Nat.reduceEqDiff,Nat.reduceLT];refine hK_ _ ?_;clear hK_ K_)))
          all_goals first
            | (refine zLz (i+1) (by omega) ⟨hlt,fun j hj=>?_,by simp only [zAz,↓reduceIte,reduceCtorEq,Nat.reduceEqDiff];exact g1,by simp only [zAz,↓reduceIte,reduceCtorEq,Nat.reduceEqDiff];rfl,rfl,rfl⟩
               by_cases hji:j=i
               · rw [hji];exact hpt.2 (by omega)
               · exact hall j (by omega))
            | ((refine zKz _ _ rfl (ret1 (by decide)) ?_;simp only [zAz,↓reduceIte,reduceCtorEq,Nat.reduceEqDiff];refine zKw rfl (by omega) ?_)
               refine ⟨congrArg ii ?_,rfl⟩
               unfold lineErr
               rw [if_neg (by omega),if_neg (by omega),if_neg (fun hh=>by have:=hpt.1 (hh i hlt);omega)])
        · (repeat' (first
  | (with_reducible first|refine zJw ?_|refine zHz ?_|refine zEv ?_|refine zEw ?_|refine zFz ?_|refine zJv ?_|refine zHy ?_|refine zBv ?_|refine zDx ?_|refine zCz ?_|refine zCw ?_|refine zEy ?_|refine zCv ?_|refine zCy ?_|refine zBy ?_|refine zDv ?_|refine zEz ?_|refine zAw ?_|refine zBz ?_)
  | refine zDz ?_|refine zEx rfl ?_|refine zJy ?_|refine zJx ?_
  | ((first|refine zGv rfl rfl rfl rfl rfl fun K_ hK_=>?_|refine zGw rfl rfl rfl rfl rfl fun K_ hK_=>?_);simp only [zAz,zDy,zGx,↓reduceIte,reduceCtorEq,Nat.reduceEqDiff,Bool.not_true,Bool.not_false];refine hK_ _ ?_;clear hK_ K_)
  | refine zDw (by decide) ?_
  | ((try first|refine zKy rfl rfl rfl ?_|refine zJz rfl rfl ?_|refine zKx rfl rfl rfl ?_|refine zIv rfl rfl ?_);(refine zIw fun Q_ hQ_=>?_;simp (disch:=first|omega|(simp only [List.length_cons,List.length_nil,List.length_append];omega)) only [bb,bp,zLy,↓reduceIte,reduceCtorEq,Nat.reduceEqDiff,Nat.reduceLT,Nat.reduceLeDiff,Nat.reduceAdd,Nat.reduceMul,Nat.reduceSub,Nat.reduceBEq,Int.reduceToNat,cond_true,cond_false,eq_self,beq_self_eq_true,g1,g3,ha,zFx wf,zGy wf,zBw wf,zFy wf,zAy wf,zAx,tEvD4,zIx,zIy,zIz,zHv,zFv,zAv wf];first|(refine zCx (Q:=Q_) (fun hp_=>?_) (fun hp_=>?_) <;> first|(exfalso;omega)|(refine hQ_ _ _ ?_;clear hQ_ Q_))|(refine zBx (Q:=Q_) (fun hp_=>?_) (fun hp_=>?_) <;> first|(exfalso;omega)|(refine hQ_ _ _ ?_;clear hQ_ Q_))|(refine hQ_ _ _ ?_;clear hQ_ Q_)))
  | (refine zHx fun K_ hK_=>?_;simp (disch:=omega) only [zGz,zAz,zHw,↓reduceIte,reduceCtorEq,Nat.reduceEqDiff,Nat.reduceLT];refine hK_ _ ?_;clear hK_ K_)))
          refine zLv [.full,.full,.no,.full,.full,.full,.full,.full,.full,.full,.no,.full,.full,.full,.full,.full,.full,.full,.full,.full,.no,.no,.no,.no,.no,.no,.no,.no,.no,.no,.no,.full,.full,.no,.no,.no,.no,.no,.no,.no,.no,.no,.no,.no,.full,.full,.full,.full] (by kernel_rfl) ?_
          (repeat' (first
  | (with_reducible first|refine zJw ?_|refine zHz ?_|refine zEv ?_|refine zEw ?_|refine zFz ?_|refine zJv ?_|refine zHy ?_|refine zBv ?_|refine zDx ?_|refine zCz ?_|refine zCw ?_|refine zEy ?_|refine zCv ?_|refine zCy ?_|refine zBy ?_|refine zDv ?_|refine zEz ?_|refine zAw ?_|refine zBz ?_)
  | refine zDz ?_|refine zEx rfl ?_|refine zJy ?_|refine zJx ?_
  | ((first|refine zGv rfl rfl rfl rfl rfl fun K_ hK_=>?_|refine zGw rfl rfl rfl rfl rfl fun K_ hK_=>?_);simp only [zAz,zDy,zGx,↓reduceIte,reduceCtorEq,Nat.reduceEqDiff,Bool.not_true,Bool.not_false];refine hK_ _ ?_;clear hK_ K_)
  | refine zDw (by decide) ?_
  | ((try first|refine zKy rfl rfl rfl ?_|refine zJz rfl rfl ?_|refine zKx rfl rfl rfl ?_|refine zIv rfl rfl ?_);(refine zIw fun Q_ hQ_=>?_;simp (disch:=first|omega|(simp only [List.length_cons,List.length_nil,List.length_append];omega)) only [bb,bp,zLy,↓reduceIte,reduceCtorEq,Nat.reduceEqDiff,Nat.reduceLT,Nat.reduceLeDiff,Nat.reduceAdd,Nat.reduceMul,Nat.reduceSub,Nat.reduceBEq,Int.reduceToNat,cond_true,cond_false,eq_self,beq_self_eq_true,g1,g3,hxa,hla,hxb,hlb,c1,zFx wf,zGy wf,zBw wf,zFy wf,zAy wf,zAx,tEvD4,zIx,zIy,zIz,zHv,zFv,zAv wf];first|(refine zCx (Q:=Q_) (fun hp_=>?_) (fun hp_=>?_) <;> first|(exfalso;omega)|(refine hQ_ _ _ ?_;clear hQ_ Q_))|(refine zBx (Q:=Q_) (fun hp_=>?_) (fun hp_=>?_) <;> first|(exfalso;omega)|(refine hQ_ _ _ ?_;clear hQ_ Q_))|(refine hQ_ _ _ ?_;clear hQ_ Q_)))
  | (refine zHx fun K_ hK_=>?_;simp (disch:=omega) only [zGz,zAz,zHw,↓reduceIte,reduceCtorEq,Nat.reduceEqDiff,Nat.reduceLT];refine hK_ _ ?_;clear hK_ K_)))
          all_goals first
            | (refine zLz (i+1) (by omega) ⟨hlt,fun j hj=>?_,by simp only [zAz,↓reduceIte,reduceCtorEq,Nat.reduceEqDiff];exact g1,by simp only [zAz,↓reduceIte,reduceCtorEq,Nat.reduceEqDiff];rfl,rfl,rfl⟩
               by_cases hji:j=i
               · rw [hji];exact hpt.2 (by omega)
               · exact hall j (by omega))
            | ((refine zKz _ _ rfl (ret1 (by decide)) ?_;simp only [zAz,↓reduceIte,reduceCtorEq,Nat.reduceEqDiff];refine zKw rfl (by omega) ?_)
               refine ⟨congrArg ii ?_,rfl⟩
               unfold lineErr
               rw [if_neg (by omega),if_neg (by omega),if_neg (fun hh=>by have:=hpt.1 (hh i hlt);omega)])
      · have hie:i=re.length:=by omega
        subst hie
        (repeat' (first
  | (with_reducible first|refine zJw ?_|refine zHz ?_|refine zEv ?_|refine zEw ?_|refine zFz ?_|refine zJv ?_|refine zHy ?_|refine zBv ?_|refine zDx ?_|refine zCz ?_|refine zCw ?_|refine zEy ?_|refine zCv ?_|refine zCy ?_|refine zBy ?_|refine zDv ?_|refine zEz ?_|refine zAw ?_|refine zBz ?_)
  | refine zDz ?_|refine zEx rfl ?_|refine zJy ?_|refine zJx ?_
  | ((first|refine zGv rfl rfl rfl rfl rfl fun K_ hK_=>?_|refine zGw rfl rfl rfl rfl rfl fun K_ hK_=>?_);simp only [zAz,zDy,zGx,↓reduceIte,reduceCtorEq,Nat.reduceEqDiff,Bool.not_true,Bool.not_false];refine hK_ _ ?_;clear hK_ K_)
  | refine zDw (by decide) ?_
  | ((try first|refine zKy rfl rfl rfl ?_|refine zJz rfl rfl ?_|refine zKx rfl rfl rfl ?_|refine zIv rfl rfl ?_);(refine zIw fun Q_ hQ_=>?_;simp (disch:=first|omega|(simp only [List.length_cons,List.length_nil,List.length_append];omega)) only [bb,bp,zLy,↓reduceIte,reduceCtorEq,Nat.reduceEqDiff,Nat.reduceLT,Nat.reduceLeDiff,Nat.reduceAdd,Nat.reduceMul,Nat.reduceSub,Nat.reduceBEq,Int.reduceToNat,cond_true,cond_false,eq_self,beq_self_eq_true,g1,g3,ha,zFx wf,zGy wf,zBw wf,zFy wf,zAy wf,zAx,tEvD4,zIx,zIy,zIz,zHv,zFv,zAv wf];first|(refine zCx (Q:=Q_) (fun hp_=>?_) (fun hp_=>?_) <;> first|(exfalso;omega)|(refine hQ_ _ _ ?_;clear hQ_ Q_))|(refine zBx (Q:=Q_) (fun hp_=>?_) (fun hp_=>?_) <;> first|(exfalso;omega)|(refine hQ_ _ _ ?_;clear hQ_ Q_))|(refine hQ_ _ _ ?_;clear hQ_ Q_)))
  | (refine zHx fun K_ hK_=>?_;simp (disch:=omega) only [zGz,zAz,zHw,↓reduceIte,reduceCtorEq,Nat.reduceEqDiff,Nat.reduceLT];refine hK_ _ ?_;clear hK_ K_)))
        (refine zKz _ _ rfl (ret1 (by decide)) ?_;simp only [zAz,↓reduceIte,reduceCtorEq,Nat.reduceEqDiff];refine zKw rfl (by omega) ?_)
        refine ⟨congrArg ii ?_,rfl⟩
        unfold lineErr
        rw [if_neg (by omega),if_neg (by omega),if_pos hall]
    · exact ⟨Nat.zero_le _,fun j hj=>absurd hj (Nat.not_lt_zero j),by simp only [zAz,↓reduceIte,reduceCtorEq,Nat.reduceEqDiff],by simp only [zAz,↓reduceIte,reduceCtorEq,Nat.reduceEqDiff];rfl,rfl,rfl⟩
  · (refine zKz _ _ rfl (ret1 (by decide)) ?_;simp only [zAz,↓reduceIte,reduceCtorEq,Nat.reduceEqDiff];refine zKw rfl (by omega) ?_)
    refine ⟨congrArg ii ?_,rfl⟩
    unfold lineErr
    rw [if_neg (by omega),if_pos (by omega)]
end Go.Proofs.Ythaleckfgcgegaa
end

section
namespace Go.Proofs.Ythaleckfgcgegaa
open Go.ChangeShapes Go.WideShapes Go.ChangeAt Go.RowKit Go.Ev
set_option maxRecDepth 100000
set_option maxHeartbeats 0

theorem own :ownKnob Try.prog.godebug=none:=by kernel_rfl
theorem laidOut :laidOutB Try.prog=true:=by kernel_rfl
theorem cells2 :Try.prog.cellsOf 2=1:=by kernel_rfl
theorem cells22 :Try.prog.cellsOf 22=1:=by kernel_rfl
theorem cells24 :Try.prog.cellsOf 24=2:=by kernel_rfl
theorem under24 : ∃ f0 f1:Field,Try.prog.underlying 24=some (.struct #[f0,f1])∧f0.offset=0∧f1.offset=1∧f0.type=22∧f1.type=22:=⟨_,_,Try.underlying24,rfl,rfl,rfl,rfl⟩
theorem cells35 :Try.prog.cellsOf 35=16:=by kernel_rfl
section
variable {H:Type} {enc:TypeId × Value→H} {r:Reach} {bs:Nat}
end
end Go.Proofs.Ythaleckfgcgegaa
end

section
namespace Go.Proofs.Ythaleckfgcgegaa
open Go.Ev
set_option maxRecDepth 100000
set_option linter.unusedSimpArgs false
set_option linter.unusedVariables false
set_option maxHeartbeats 2000000
theorem tEvD5 :type_of% (And.intro (And.intro (And.intro (And.intro (And.intro (And.intro (And.intro (@yWz) (@yVv)) (And.intro (@yVw) (And.intro (@yVx) (@yVy)))) (And.intro (And.intro (@yVz) (And.intro (@yUv) (@yUw))) (And.intro (@zVy) (And.intro (@ia_2) (@sz_2))))) (And.intro (And.intro (And.intro (@ia_3) (@sz_3)) (And.intro (@ia_4) (And.intro (@sz_4) (@yUx)))) (And.intro (And.intro (@yDw) (And.intro (@yUy) (@yDx))) (And.intro (@yUz) (And.intro (@yDy) (@yTv)))))) (And.intro (And.intro (And.intro (And.intro (@zWw) (@yTw)) (And.intro (@yDz) (And.intro (@yTx) (@yCv)))) (And.intro (And.intro (@yTy) (And.intro (@yCw) (@yTz))) (And.intro (@yCx) (And.intro (@ySv) (@yCy))))) (And.intro (And.intro (And.intro (@ySw) (@yCz)) (And.intro (@ySx) (And.intro (@zXz) (@ySy)))) (And.intro (And.intro (@yBv) (And.intro (@ySz) (@yBw))) (And.intro (@yRv) (And.intro (@yBx) (@yRw))))))) (And.intro (And.intro (And.intro (And.intro (And.intro (@yBy) (@yRx)) (And.intro (@yBz) (And.intro (@yRy) (@yAv)))) (And.intro (And.intro (@yRz) (And.intro (@yAw) (@yQv))) (And.intro (@yAx) (And.intro (@yQw) (@yAy))))) (And.intro (And.intro (And.intro (@yQx) (@yAz)) (And.intro (@zVz) (And.intro (@zTw) (@zUv)))) (And.intro (And.intro (@zTx) (And.intro (@zUw) (@zTy))) (And.intro (@zUx) (And.intro (@zTz) (@zUy)))))) (And.intro (And.intro (And.intro (And.intro (@zSv) (@zUz)) (And.intro (@zSw) (And.intro (@zTv) (@zSx)))) (And.intro (And.intro (@ze_2) (And.intro (@ze_3) (@ze_4))) (And.intro (@zZv) (And.intro (@zZw) (@zZx))))) (And.intro (And.intro (And.intro (@zZy) (And.intro (@zZz) (@zYv))) (And.intro (@zYw) (And.intro (@zYx) (@zYy)))) (And.intro (And.intro (@zSy) (And.intro (@zRx) (@zRy))) (And.intro (@zRz) (And.intro (@zQv) (@zQw)))))))) (And.intro (And.intro (And.intro (And.intro (And.intro (And.intro (@zQx) (@zQy)) (And.intro (@zQz) (And.intro (@zPv) (@zPw)))) (And.intro (And.intro (@zPx) (And.intro (@zPy) (@zPz))) (And.intro (@zOv) (And.intro (@zOw) (@zOx))))) (And.intro (And.intro (And.intro (@zOy) (@zOz)) (And.intro (@zNv) (And.intro (@zNw) (@zNx)))) (And.intro (And.intro (@zNy) (And.intro (@zNz) (@zMv))) (And.intro (@zMw) (And.intro (@zMx) (@zMy)))))) (And.intro (And.intro (And.intro (And.intro (@zMz) (@yQy)) (And.intro (@yQz) (And.intro (@yPv) (@yPw)))) (And.intro (And.intro (@yPx) (And.intro (@yPy) (@yPz))) (And.intro (@yOv) (And.intro (@yOw) (@yOx))))) (And.intro (And.intro (And.intro (@yOy) (And.intro (@yOz) (@yNv))) (And.intro (@yNw) (And.intro (@yNx) (@yNy)))) (And.intro (And.intro (@yNz) (And.intro (@yMv) (@yMw))) (And.intro (@yMx) (And.intro (@yMy) (@yMz))))))) (And.intro (And.intro (And.intro (And.intro (And.intro (@yLv) (@yLw)) (And.intro (@yLx) (And.intro (@yLy) (@yLz)))) (And.intro (And.intro (@yKv) (And.intro (@yKw) (@yKx))) (And.intro (@yKy) (And.intro (@yKz) (@yJv))))) (And.intro (And.intro (And.intro (@yJw) (@yJx)) (And.intro (@yJy) (And.intro (@yJz) (@yIv)))) (And.intro (And.intro (@yIw) (And.intro (@yIx) (@yIy))) (And.intro (@yIz) (And.intro (@yHv) (@yHw)))))) (And.intro (And.intro (And.intro (And.intro (@yHx) (@yHy)) (And.intro (@yHz) (And.intro (@yGv) (@yGw)))) (And.intro (And.intro (@yGx) (And.intro (@zYz) (@zXv))) (And.intro (@yGy) (And.intro (@yGz) (@yFv))))) (And.intro (And.intro (And.intro (@yFw) (And.intro (@yFx) (@yFy))) (And.intro (@yFz) (And.intro (@yEv) (@yEw)))) (And.intro (And.intro (@yEx) (And.intro (@yEy) (@zXw))) (And.intro (@yEz) (And.intro (@yDv) (@zXx))))))))):=And.intro (And.intro (And.intro (And.intro (And.intro (And.intro (And.intro (@yWz) (@yVv)) (And.intro (@yVw) (And.intro (@yVx) (@yVy)))) (And.intro (And.intro (@yVz) (And.intro (@yUv) (@yUw))) (And.intro (@zVy) (And.intro (@ia_2) (@sz_2))))) (And.intro (And.intro (And.intro (@ia_3) (@sz_3)) (And.intro (@ia_4) (And.intro (@sz_4) (@yUx)))) (And.intro (And.intro (@yDw) (And.intro (@yUy) (@yDx))) (And.intro (@yUz) (And.intro (@yDy) (@yTv)))))) (And.intro (And.intro (And.intro (And.intro (@zWw) (@yTw)) (And.intro (@yDz) (And.intro (@yTx) (@yCv)))) (And.intro (And.intro (@yTy) (And.intro (@yCw) (@yTz))) (And.intro (@yCx) (And.intro (@ySv) (@yCy))))) (And.intro (And.intro (And.intro (@ySw) (@yCz)) (And.intro (@ySx) (And.intro (@zXz) (@ySy)))) (And.intro (And.intro (@yBv) (And.intro (@ySz) (@yBw))) (And.intro (@yRv) (And.intro (@yBx) (@yRw))))))) (And.intro (And.intro (And.intro (And.intro (And.intro (@yBy) (@yRx)) (And.intro (@yBz) (And.intro (@yRy) (@yAv)))) (And.intro (And.intro (@yRz) (And.intro (@yAw) (@yQv))) (And.intro (@yAx) (And.intro (@yQw) (@yAy))))) (And.intro (And.intro (And.intro (@yQx) (@yAz)) (And.intro (@zVz) (And.intro (@zTw) (@zUv)))) (And.intro (And.intro (@zTx) (And.intro (@zUw) (@zTy))) (And.intro (@zUx) (And.intro (@zTz) (@zUy)))))) (And.intro (And.intro (And.intro (And.intro (@zSv) (@zUz)) (And.intro (@zSw) (And.intro (@zTv) (@zSx)))) (And.intro (And.intro (@ze_2) (And.intro (@ze_3) (@ze_4))) (And.intro (@zZv) (And.intro (@zZw) (@zZx))))) (And.intro (And.intro (And.intro (@zZy) (And.intro (@zZz) (@zYv))) (And.intro (@zYw) (And.intro (@zYx) (@zYy)))) (And.intro (And.intro (@zSy) (And.intro (@zRx) (@zRy))) (And.intro (@zRz) (And.intro (@zQv) (@zQw)))))))) (And.intro (And.intro (And.intro (And.intro (And.intro (And.intro (@zQx) (@zQy)) (And.intro (@zQz) (And.intro (@zPv) (@zPw)))) (And.intro (And.intro (@zPx) (And.intro (@zPy) (@zPz))) (And.intro (@zOv) (And.intro (@zOw) (@zOx))))) (And.intro (And.intro (And.intro (@zOy) (@zOz)) (And.intro (@zNv) (And.intro (@zNw) (@zNx)))) (And.intro (And.intro (@zNy) (And.intro (@zNz) (@zMv))) (And.intro (@zMw) (And.intro (@zMx) (@zMy)))))) (And.intro (And.intro (And.intro (And.intro (@zMz) (@yQy)) (And.intro (@yQz) (And.intro (@yPv) (@yPw)))) (And.intro (And.intro (@yPx) (And.intro (@yPy) (@yPz))) (And.intro (@yOv) (And.intro (@yOw) (@yOx))))) (And.intro (And.intro (And.intro (@yOy) (And.intro (@yOz) (@yNv))) (And.intro (@yNw) (And.intro (@yNx) (@yNy)))) (And.intro (And.intro (@yNz) (And.intro (@yMv) (@yMw))) (And.intro (@yMx) (And.intro (@yMy) (@yMz))))))) (And.intro (And.intro (And.intro (And.intro (And.intro (@yLv) (@yLw)) (And.intro (@yLx) (And.intro (@yLy) (@yLz)))) (And.intro (And.intro (@yKv) (And.intro (@yKw) (@yKx))) (And.intro (@yKy) (And.intro (@yKz) (@yJv))))) (And.intro (And.intro (And.intro (@yJw) (@yJx)) (And.intro (@yJy) (And.intro (@yJz) (@yIv)))) (And.intro (And.intro (@yIw) (And.intro (@yIx) (@yIy))) (And.intro (@yIz) (And.intro (@yHv) (@yHw)))))) (And.intro (And.intro (And.intro (And.intro (@yHx) (@yHy)) (And.intro (@yHz) (And.intro (@yGv) (@yGw)))) (And.intro (And.intro (@yGx) (And.intro (@zYz) (@zXv))) (And.intro (@yGy) (And.intro (@yGz) (@yFv))))) (And.intro (And.intro (And.intro (@yFw) (And.intro (@yFx) (@yFy))) (And.intro (@yFz) (And.intro (@yEv) (@yEw)))) (And.intro (And.intro (@yEx) (And.intro (@yEy) (@zXw))) (And.intro (@yEz) (And.intro (@yDv) (@zXx))))))))
theorem gd {l:List Int} {i:Nat} (hi:i<l.length):l.getD i 0=l[i]:=by simp [List.getD,hi]
theorem okL.lt {re cf:List Int} (k:okL re cf) {i:Nat} : ∀ {j:Nat},i<j→j<re.length→re.getD i 0<re.getD j 0
  | j+1,h1,h2=>by
    have h3:=((k.pt (j+1) h2).2.2 (by omega)).1
    rw [Nat.add_sub_cancel] at h3
    by_cases e:i=j
    · rw [e];exact h3
    · have:=k.lt (i:=i) (j:=j) (by omega) (by omega);omega
theorem okL.le {re cf:List Int} (k:okL re cf) {i:Nat} : ∀ {j:Nat},i≤j→j<re.length→cf.getD j 0≤cf.getD i 0
  | 0,h1,h2=>by rw [Nat.le_zero.1 h1];exact Int.le_refl _
  | j+1,h1,h2=>by
    have h3:=((k.pt (j+1) h2).2.2 (by omega)).2
    rw [Nat.add_sub_cancel] at h3
    by_cases e:i=j+1
    · rw [e];exact Int.le_refl _
    · have:=k.le (i:=i) (j:=j) (by omega) (by omega);omega
theorem okL.re_in {re cf:List Int} (k:okL re cf) {i:Nat} (hi:i<re.length):1≤re.getD i 0∧re.getD i 0≤1000000000:=(k.pt i hi).1
theorem okL.cf_in {re cf:List Int} (k:okL re cf) {i:Nat} (hi:i<re.length):0≤cf.getD i 0∧cf.getD i 0≤100000:=(k.pt i hi).2.1
def beh (re:List Int) (r:Int):Nat:=re.findIdx fun y=>decide (r<y)
theorem beh_at {re:List Int} {r:Int} {i:Nat} (hi:i<re.length) (h1:r<re.getD i 0) (h2 : ∀ j,j<i→re.getD j 0≤r):beh re r=i:=by
  unfold beh
  rw [List.findIdx_eq hi]
  refine ⟨decide_eq_true (by simpa [List.getD,hi] using h1),fun j hj=>decide_eq_false (by
    have:=h2 j hj
    simp [List.getD,show j<re.length by omega] at this;omega)⟩
theorem beh_end {re:List Int} {r:Int} (h2 : ∀ j,j<re.length→re.getD j 0≤r):beh re r=re.length:=by
  unfold beh
  rw [List.findIdx_eq_length]
  intro x hx
  obtain ⟨i,hi,e⟩:=List.getElem_of_mem hx
  have:=h2 i hi
  simp [List.getD,hi,e] at this
  exact decide_eq_false (by omega)
def has (re:List Int) (r:Int):Prop:=re.getD 0 0≤r∧r≤re.getD (re.length - 1) 0
instance (re:List Int) (r:Int):Decidable (has re r):=by unfold has;infer_instance
def mid (re cf:List Int) (i:Nat) (r:Int):Int:=cf.getD (i - 1) 0 - (cf.getD (i - 1) 0 - cf.getD i 0) * (r - re.getD (i - 1) 0) / (re.getD i 0 - re.getD (i - 1) 0)
def fr (re cf:List Int) (r:Int):Int:=if beh re r=re.length then cf.getD (re.length - 1) 0 else mid re cf (beh re r) r
theorem xIx {re cf:List Int} (k:okL re cf) {r:Int} (hh:has re r) :
    (beh re r=re.length∧r=re.getD (re.length - 1) 0) ∨ ∃ i,beh re r=i∧0<i∧i<re.length∧re.getD (i - 1) 0≤r∧r<re.getD i 0:=by
  have hn:=k.n
  by_cases h:r=re.getD (re.length - 1) 0
  · left
    refine ⟨beh_end fun j hj=>?_,h⟩
    by_cases e:j=re.length - 1
    · rw [e,← h];exact Int.le_refl _
    · have:=k.lt (i:=j) (j:=re.length - 1) (by omega) (by omega);omega
  · right
    have hlt:r<re.getD (re.length - 1) 0:=by have:=hh.2;omega
    have hb:beh re r<re.length:=by
      unfold beh
      rw [List.findIdx_lt_length]
      refine ⟨re[re.length - 1]'(by omega),List.getElem_mem _,decide_eq_true (by simpa [List.getD,show re.length - 1<re.length by omega] using hlt)⟩
    have h1:=List.findIdx_getElem (xs:=re) (p:=fun y=>decide (r<y)) (w:=hb)
    have h1':r<re.getD (beh re r) 0:=by
      rw [gd hb];exact of_decide_eq_true h1
    have h0:0<beh re r:=by
      rcases Nat.eq_zero_or_pos (beh re r) with e|e
      · rw [e] at h1';have:=hh.1;omega
      · exact e
    refine ⟨_,rfl,h0,hb,?_,h1'⟩
    have h2:=List.not_of_lt_findIdx (xs:=re) (p:=fun y=>decide (r<y)) (i:=beh re r - 1) (by show beh re r - 1<beh re r;omega)
    have h3:=of_decide_eq_false h2
    have h4:re.getD (beh re r - 1) 0=re[beh re r - 1]'(by omega):=by simp [List.getD,show beh re r - 1<re.length by omega]
    rw [h4];omega
theorem mid_in {re cf:List Int} (k:okL re cf) {r:Int} {i:Nat} (h0:0<i) (hi:i<re.length) (h1:re.getD (i - 1) 0≤r) (h2:r<re.getD i 0) :
    (0≤(cf.getD (i - 1) 0 - cf.getD i 0) * (r - re.getD (i - 1) 0)∧(cf.getD (i - 1) 0 - cf.getD i 0) * (r - re.getD (i - 1) 0)≤100000000000000)∧cf.getD i 0≤mid re cf i r∧mid re cf i r≤cf.getD (i - 1) 0:=by
  have a1:=k.re_in hi
  have a2:=k.re_in (i:=i - 1) (by omega)
  have a3:=k.cf_in hi
  have a4:=k.cf_in (i:=i - 1) (by omega)
  have a5:=k.le (i:=i - 1) (j:=i) (by omega) hi
  have hp:=yZv (a:=cf.getD (i - 1) 0 - cf.getD i 0) (b:=r - re.getD (i - 1) 0) (x:=100000) (y:=1000000000) ⟨by omega,by omega⟩ ⟨by omega,by omega⟩
  refine ⟨⟨hp.1,by omega⟩,?_⟩
  have hd:0<re.getD i 0 - re.getD (i - 1) 0:=by omega
  have q1:=Int.ediv_nonneg hp.1 (show 0≤re.getD i 0 - re.getD (i - 1) 0 by omega)
  have q2:(cf.getD (i - 1) 0 - cf.getD i 0) * (r - re.getD (i - 1) 0) / (re.getD i 0 - re.getD (i - 1) 0)≤cf.getD (i - 1) 0 - cf.getD i 0:=by
    have h3:(cf.getD (i - 1) 0 - cf.getD i 0) * (r - re.getD (i - 1) 0)≤(cf.getD (i - 1) 0 - cf.getD i 0) * (re.getD i 0 - re.getD (i - 1) 0):=Int.mul_le_mul_of_nonneg_left (by omega) (by omega)
    have:=Int.ediv_le_ediv hd h3
    rwa [Int.mul_ediv_cancel _ (by omega)] at this
  unfold mid
  omega
theorem fr_in {re cf:List Int} (k:okL re cf) {r:Int} (hh:has re r):0≤fr re cf r∧fr re cf r≤100000:=by
  have hn:=k.n
  rcases xIx k hh with ⟨e,_⟩|⟨i,e,h0,hi,h1,h2⟩
  · unfold fr
    rw [if_pos e]
    exact k.cf_in (by omega)
  · unfold fr
    rw [e,if_neg (by omega)]
    have:=mid_in k h0 hi h1 h2
    have:=k.cf_in hi
    have:=k.cf_in (i:=i - 1) (by omega)
    omega

theorem behind (a b:AV) (re cf:List Int) (r:Int) (h:H) (x:LineR h a b re cf) (hn:re.length≤12):(om Try.prog KK).call (.fn 66 [a,ii r]) h = .ok (ii (beh re r:Nat)) h:=by
  have wf:=x.wf
  obtain ⟨⟨fa,fa'⟩,⟨fb,fb'⟩⟩:=x.flats
  have ha : ∀ h',lenE Try.prog 22 a h'=some (ii (re.length:Int)):=fun h'=>x.re.len yZw
  refine zWy (zLx (fn:=Try.f66) Try.func66 rfl rfl rfl rfl rfl ?_)
  simp only [zLy]
  (repeat' (first
  | (with_reducible first|refine zJw ?_|refine zHz ?_|refine zEv ?_|refine zEw ?_|refine zFz ?_|refine zJv ?_|refine zHy ?_|refine zBv ?_|refine zDx ?_|refine zCz ?_|refine zCw ?_|refine zEy ?_|refine zCv ?_|refine zCy ?_|refine zBy ?_|refine zDv ?_|refine zEz ?_|refine zAw ?_|refine zBz ?_)
  | refine zDz ?_|refine zEx rfl ?_|refine zJy ?_|refine zJx ?_
  | ((first|refine zGv rfl rfl rfl rfl rfl fun K_ hK_=>?_|refine zGw rfl rfl rfl rfl rfl fun K_ hK_=>?_);simp only [zAz,zDy,zGx,↓reduceIte,reduceCtorEq,Nat.reduceEqDiff,Bool.not_true,Bool.not_false];refine hK_ _ ?_;clear hK_ K_)
  | refine zDw (by decide) ?_
  | ((try first|refine zKy rfl rfl rfl ?_|refine zJz rfl rfl ?_|refine zKx rfl rfl rfl ?_|refine zIv rfl rfl ?_);(refine zIw fun Q_ hQ_=>?_;simp (disch:=first|omega|(simp only [List.length_cons,List.length_nil,List.length_append];omega)) only [bb,bp,zLy,↓reduceIte,reduceCtorEq,Nat.reduceEqDiff,Nat.reduceLT,Nat.reduceLeDiff,Nat.reduceAdd,Nat.reduceMul,Nat.reduceSub,Nat.reduceBEq,Int.reduceToNat,cond_true,cond_false,eq_self,beq_self_eq_true,ha,zFx wf,zGy wf,zBw wf,zFy wf,zAy wf,zAx,tEvD5,zIx,zIy,zIz,zHv,zFv,zAv wf];first|(refine zCx (Q:=Q_) (fun hp_=>?_) (fun hp_=>?_) <;> first|(exfalso;omega)|(refine hQ_ _ _ ?_;clear hQ_ Q_))|(refine zBx (Q:=Q_) (fun hp_=>?_) (fun hp_=>?_) <;> first|(exfalso;omega)|(refine hQ_ _ _ ?_;clear hQ_ Q_))|(refine hQ_ _ _ ?_;clear hQ_ Q_)))
  | (refine zHx fun K_ hK_=>?_;simp (disch:=omega) only [zGz,zAz,zHw,↓reduceIte,reduceCtorEq,Nat.reduceEqDiff,Nat.reduceLT];refine hK_ _ ?_;clear hK_ K_)))
  refine zVw (fun (i:Nat) f d h'=>i≤re.length∧(∀ j,j<i→re.getD j 0≤r)∧f 0=a∧f 1=ii r∧f 7=a∧f 8=ii (re.length:Int)∧f 9=ii (i:Int)∧d=[]∧h'=X h [] h.clock) (fun i=>re.length - i) ?_ (re.length+1) 0 (by omega) ?_
  · rintro i f d h' ⟨hi,hall,g0,g1,g7,g8,g9,rfl,rfl⟩
    by_cases hlt:i<re.length
    · obtain ⟨ia,oa,hxa,hla⟩:=yWx wf x.re hlt
      (repeat' (first
  | (with_reducible first|refine zJw ?_|refine zHz ?_|refine zEv ?_|refine zEw ?_|refine zFz ?_|refine zJv ?_|refine zHy ?_|refine zBv ?_|refine zDx ?_|refine zCz ?_|refine zCw ?_|refine zEy ?_|refine zCv ?_|refine zCy ?_|refine zBy ?_|refine zDv ?_|refine zEz ?_|refine zAw ?_|refine zBz ?_)
  | refine zDz ?_|refine zEx rfl ?_|refine zJy ?_|refine zJx ?_
  | ((first|refine zGv rfl rfl rfl rfl rfl fun K_ hK_=>?_|refine zGw rfl rfl rfl rfl rfl fun K_ hK_=>?_);simp only [zAz,zDy,zGx,↓reduceIte,reduceCtorEq,Nat.reduceEqDiff,Bool.not_true,Bool.not_false];refine hK_ _ ?_;clear hK_ K_)
  | refine zDw (by decide) ?_
  | ((try first|refine zKy rfl rfl rfl ?_|refine zJz rfl rfl ?_|refine zKx rfl rfl rfl ?_|refine zIv rfl rfl ?_);(refine zIw fun Q_ hQ_=>?_;simp (disch:=first|omega|(simp only [List.length_cons,List.length_nil,List.length_append];omega)) only [bb,bp,zLy,↓reduceIte,reduceCtorEq,Nat.reduceEqDiff,Nat.reduceLT,Nat.reduceLeDiff,Nat.reduceAdd,Nat.reduceMul,Nat.reduceSub,Nat.reduceBEq,Int.reduceToNat,cond_true,cond_false,eq_self,beq_self_eq_true,g0,g1,g7,g8,g9,hxa,hla,zFx wf,zGy wf,zBw wf,zFy wf,zAy wf,zAx,tEvD5,zIx,zIy,zIz,zHv,zFv,zAv wf];first|(refine zCx (Q:=Q_) (fun hp_=>?_) (fun hp_=>?_) <;> first|(exfalso;omega)|(refine hQ_ _ _ ?_;clear hQ_ Q_))|(refine zBx (Q:=Q_) (fun hp_=>?_) (fun hp_=>?_) <;> first|(exfalso;omega)|(refine hQ_ _ _ ?_;clear hQ_ Q_))|(refine hQ_ _ _ ?_;clear hQ_ Q_)))
  | (refine zHx fun K_ hK_=>?_;simp (disch:=omega) only [zGz,zAz,zHw,↓reduceIte,reduceCtorEq,Nat.reduceEqDiff,Nat.reduceLT];refine hK_ _ ?_;clear hK_ K_)))
      · (refine zKz _ _ rfl (ret1 (by decide)) ?_;simp only [zAz,↓reduceIte,reduceCtorEq,Nat.reduceEqDiff];refine zKw rfl (by omega) ?_)
        exact ⟨by rw [beh_at hlt (by assumption) hall],rfl⟩
      · refine zLz (i+1) (by omega) ⟨hlt,fun j hj=>?_,by simp only [zAz,↓reduceIte,reduceCtorEq,Nat.reduceEqDiff];exact g0,by simp only [zAz,↓reduceIte,reduceCtorEq,Nat.reduceEqDiff];exact g1,by simp only [zAz,↓reduceIte,reduceCtorEq,Nat.reduceEqDiff];exact g7,by simp only [zAz,↓reduceIte,reduceCtorEq,Nat.reduceEqDiff];exact g8,by simp only [zAz,↓reduceIte,reduceCtorEq,Nat.reduceEqDiff];rfl,rfl,rfl⟩
        by_cases hji:j=i
        · rw [hji];omega
        · exact hall j (by omega)
    · have hie:i=re.length:=by omega
      subst hie
      (repeat' (first
  | (with_reducible first|refine zJw ?_|refine zHz ?_|refine zEv ?_|refine zEw ?_|refine zFz ?_|refine zJv ?_|refine zHy ?_|refine zBv ?_|refine zDx ?_|refine zCz ?_|refine zCw ?_|refine zEy ?_|refine zCv ?_|refine zCy ?_|refine zBy ?_|refine zDv ?_|refine zEz ?_|refine zAw ?_|refine zBz ?_)
  | refine zDz ?_|refine zEx rfl ?_|refine zJy ?_|refine zJx ?_
  | ((first|refine zGv rfl rfl rfl rfl rfl fun K_ hK_=>?_|refine zGw rfl rfl rfl rfl rfl fun K_ hK_=>?_);simp only [zAz,zDy,zGx,↓reduceIte,reduceCtorEq,Nat.reduceEqDiff,Bool.not_true,Bool.not_false];refine hK_ _ ?_;clear hK_ K_)
  | refine zDw (by decide) ?_
  | ((try first|refine zKy rfl rfl rfl ?_|refine zJz rfl rfl ?_|refine zKx rfl rfl rfl ?_|refine zIv rfl rfl ?_);(refine zIw fun Q_ hQ_=>?_;simp (disch:=first|omega|(simp only [List.length_cons,List.length_nil,List.length_append];omega)) only [bb,bp,zLy,↓reduceIte,reduceCtorEq,Nat.reduceEqDiff,Nat.reduceLT,Nat.reduceLeDiff,Nat.reduceAdd,Nat.reduceMul,Nat.reduceSub,Nat.reduceBEq,Int.reduceToNat,cond_true,cond_false,eq_self,beq_self_eq_true,g0,g1,g7,g8,g9,ha,zFx wf,zGy wf,zBw wf,zFy wf,zAy wf,zAx,tEvD5,zIx,zIy,zIz,zHv,zFv,zAv wf];first|(refine zCx (Q:=Q_) (fun hp_=>?_) (fun hp_=>?_) <;> first|(exfalso;omega)|(refine hQ_ _ _ ?_;clear hQ_ Q_))|(refine zBx (Q:=Q_) (fun hp_=>?_) (fun hp_=>?_) <;> first|(exfalso;omega)|(refine hQ_ _ _ ?_;clear hQ_ Q_))|(refine hQ_ _ _ ?_;clear hQ_ Q_)))
  | (refine zHx fun K_ hK_=>?_;simp (disch:=omega) only [zGz,zAz,zHw,↓reduceIte,reduceCtorEq,Nat.reduceEqDiff,Nat.reduceLT];refine hK_ _ ?_;clear hK_ K_)))
      (refine zKz _ _ rfl (ret1 (by decide)) ?_;simp only [zAz,↓reduceIte,reduceCtorEq,Nat.reduceEqDiff];refine zKw rfl (by omega) ?_)
      exact ⟨by rw [beh_end hall],rfl⟩
  · exact ⟨Nat.zero_le _,fun j hj=>absurd hj (Nat.not_lt_zero j),by simp only [zAz,↓reduceIte,reduceCtorEq,Nat.reduceEqDiff],by simp only [zAz,↓reduceIte,reduceCtorEq,Nat.reduceEqDiff],by simp only [zAz,↓reduceIte,reduceCtorEq,Nat.reduceEqDiff],by simp only [zAz,↓reduceIte,reduceCtorEq,Nat.reduceEqDiff],by simp only [zAz,↓reduceIte,reduceCtorEq,Nat.reduceEqDiff];rfl,rfl,rfl⟩

theorem hasC (a b:AV) (re cf:List Int) (r:Int) (h:H) (x:LineR h a b re cf) (hn:2≤re.length∧re.length≤12):(om Try.prog KK).call (.fn 38 [.agg [a,b],ii r]) h = .ok (.bool (decide (has re r))) h:=by
  have wf:=x.wf
  obtain ⟨⟨fa,fa'⟩,⟨fb,fb'⟩⟩:=x.flats
  have ha : ∀ h',lenE Try.prog 22 a h'=some (ii (re.length:Int)):=fun h'=>x.re.len yZw
  obtain ⟨ia,oa,hxa,hla⟩:=yWx wf x.re (i:=0) (by omega)
  obtain ⟨ib,ob,hxb,hlb⟩:=yWx wf x.re (i:=re.length - 1) (by omega)
  rw [show ((re.length - 1:Nat):Int)=(re.length:Int) - 1 from by omega] at hxb
  have hxa':indexAddrE Try.prog 22 a (.int .i64 0)=some (.ptr ia oa):=hxa
  have hd:has re r ↔ (re.getD 0 0≤r∧r≤re.getD (re.length - 1) 0):=Iff.rfl
  generalize re.getD 0 0=u at *
  generalize re.getD (re.length - 1) 0=v at *
  refine zWy (zLx (fn:=Try.f38) Try.func38 rfl rfl rfl rfl rfl ?_)
  simp only [zLy]
  (repeat' (first
  | (with_reducible first|refine zJw ?_|refine zHz ?_|refine zEv ?_|refine zEw ?_|refine zFz ?_|refine zJv ?_|refine zHy ?_|refine zBv ?_|refine zDx ?_|refine zCz ?_|refine zCw ?_|refine zEy ?_|refine zCv ?_|refine zCy ?_|refine zBy ?_|refine zDv ?_|refine zEz ?_|refine zAw ?_|refine zBz ?_)
  | refine zDz ?_|refine zEx rfl ?_|refine zJy ?_|refine zJx ?_
  | ((first|refine zGv rfl rfl rfl rfl rfl fun K_ hK_=>?_|refine zGw rfl rfl rfl rfl rfl fun K_ hK_=>?_);simp only [zAz,zDy,zGx,↓reduceIte,reduceCtorEq,Nat.reduceEqDiff,Bool.not_true,Bool.not_false];refine hK_ _ ?_;clear hK_ K_)
  | refine zDw (by decide) ?_
  | ((try first|refine zKy rfl rfl rfl ?_|refine zJz rfl rfl ?_|refine zKx rfl rfl rfl ?_|refine zIv rfl rfl ?_);(refine zIw fun Q_ hQ_=>?_;simp (disch:=first|omega|(simp only [List.length_cons,List.length_nil,List.length_append];omega)) only [bb,bp,zLy,↓reduceIte,reduceCtorEq,Nat.reduceEqDiff,Nat.reduceLT,Nat.reduceLeDiff,Nat.reduceAdd,Nat.reduceMul,Nat.reduceSub,Nat.reduceBEq,Int.reduceToNat,cond_true,cond_false,eq_self,beq_self_eq_true,ha,fa,fb,fa',fb',hxa',hla,hxb,hlb,zFx wf,zGy wf,zBw wf,zFy wf,zAy wf,zAx,tEvD5,zIx,zIy,zIz,zHv,zFv,zAv wf];first|(refine zCx (Q:=Q_) (fun hp_=>?_) (fun hp_=>?_) <;> first|(exfalso;omega)|(refine hQ_ _ _ ?_;clear hQ_ Q_))|(refine zBx (Q:=Q_) (fun hp_=>?_) (fun hp_=>?_) <;> first|(exfalso;omega)|(refine hQ_ _ _ ?_;clear hQ_ Q_))|(refine hQ_ _ _ ?_;clear hQ_ Q_)))
  | (refine zHx fun K_ hK_=>?_;simp (disch:=omega) only [zGz,zAz,zHw,↓reduceIte,reduceCtorEq,Nat.reduceEqDiff,Nat.reduceLT];refine hK_ _ ?_;clear hK_ K_)))
  all_goals (refine zKz _ _ rfl (ret1 (by decide)) ?_;simp only [zAz,↓reduceIte,reduceCtorEq,Nat.reduceEqDiff];refine zKw rfl (by omega) ?_)
  all_goals exact ⟨by congr 1;first|(rw [decide_eq_true];apply hd.2;omega)|(rw [decide_eq_false];intro hh;have:=hd.1 hh;omega),rfl⟩

theorem friction (a b:AV) (re cf:List Int) (r:Int) (h:H) (x:LineR h a b re cf) (k:okL re cf) (hh:has re r):(om Try.prog KK).call (.fn 39 [.agg [a,b],ii r]) h = .ok (ii (fr re cf r)) h:=by
  have wf:=x.wf
  have hn:=k.n
  have hce:=k.e
  obtain ⟨⟨fa,fa'⟩,⟨fb,fb'⟩⟩:=x.flats
  have ha : ∀ h',lenE Try.prog 22 a h'=some (ii (re.length:Int)):=fun h'=>x.re.len yZw
  refine zWy (zLx (fn:=Try.f39) Try.func39 rfl rfl rfl rfl rfl ?_)
  simp only [zLy]
  rcases xIx k hh with ⟨e,he⟩|⟨i,e,h0,hi,h1,h2⟩
  · obtain ⟨ib,ob,hxb,hlb⟩:=yWx wf x.cf (i:=re.length - 1) (by omega)
    rw [show ((re.length - 1:Nat):Int)=(re.length:Int) - 1 from by omega] at hxb
    (repeat' (first
  | (with_reducible first|refine zJw ?_|refine zHz ?_|refine zEv ?_|refine zEw ?_|refine zFz ?_|refine zJv ?_|refine zHy ?_|refine zBv ?_|refine zDx ?_|refine zCz ?_|refine zCw ?_|refine zEy ?_|refine zCv ?_|refine zCy ?_|refine zBy ?_|refine zDv ?_|refine zEz ?_|refine zAw ?_|refine zBz ?_)
  | refine zDz ?_|refine zEx rfl ?_|refine zJy ?_|refine zJx ?_
  | ((first|refine zGv rfl rfl rfl rfl rfl fun K_ hK_=>?_|refine zGw rfl rfl rfl rfl rfl fun K_ hK_=>?_);simp only [zAz,zDy,zGx,↓reduceIte,reduceCtorEq,Nat.reduceEqDiff,Bool.not_true,Bool.not_false];refine hK_ _ ?_;clear hK_ K_)
  | refine zDw (by decide) ?_
  | ((try first|refine zKy rfl rfl rfl ?_|refine zJz rfl rfl ?_|refine zKx rfl rfl rfl ?_|refine zIv rfl rfl ?_);(refine zIw fun Q_ hQ_=>?_;simp (disch:=first|omega|(simp only [List.length_cons,List.length_nil,List.length_append];omega)) only [bb,bp,zLy,↓reduceIte,reduceCtorEq,Nat.reduceEqDiff,Nat.reduceLT,Nat.reduceLeDiff,Nat.reduceAdd,Nat.reduceMul,Nat.reduceSub,Nat.reduceBEq,Int.reduceToNat,cond_true,cond_false,eq_self,beq_self_eq_true,ha,e,fa,fb,fa',fb',hxb,hlb,zFx wf,zGy wf,zBw wf,zFy wf,zAy wf,zAx,tEvD5,zIx,zIy,zIz,zHv,zFv,zAv wf];first|(refine zCx (Q:=Q_) (fun hp_=>?_) (fun hp_=>?_) <;> first|(exfalso;omega)|(refine hQ_ _ _ ?_;clear hQ_ Q_))|(refine zBx (Q:=Q_) (fun hp_=>?_) (fun hp_=>?_) <;> first|(exfalso;omega)|(refine hQ_ _ _ ?_;clear hQ_ Q_))|(refine hQ_ _ _ ?_;clear hQ_ Q_)|(refine zRv (behind a b re cf r _ (x.up _ _ (by simp only [List.length_append,List.length_cons,List.length_nil];omega)) hn.2) ?_;refine hQ_ _ _ ?_;clear hQ_ Q_)))
  | (refine zHx fun K_ hK_=>?_;simp (disch:=omega) only [zGz,zAz,zHw,↓reduceIte,reduceCtorEq,Nat.reduceEqDiff,Nat.reduceLT];refine hK_ _ ?_;clear hK_ K_)))
    (refine zKz _ _ rfl (ret1 (by decide)) ?_;simp only [zAz,↓reduceIte,reduceCtorEq,Nat.reduceEqDiff];refine zKw rfl (by omega) ?_)
    exact ⟨by unfold fr;rw [if_pos e],rfl⟩
  · obtain ⟨ia,oa,hxa,hla⟩:=yWx wf x.re (i:=i) (by omega)
    obtain ⟨ib,ob,hxb,hlb⟩:=yWx wf x.cf (i:=i) (by omega)
    obtain ⟨ip,op,hxp,hlp⟩:=yWx wf x.re (i:=i - 1) (by omega)
    obtain ⟨iq,oq,hxq,hlq⟩:=yWx wf x.cf (i:=i - 1) (by omega)
    rw [show ((i - 1:Nat):Int)=(i:Int) - 1 from by omega] at hxp hxq
    have hm:=(mid_in k h0 hi h1 h2)
    have hfr:fr re cf r=mid re cf i r:=by unfold fr;rw [e,if_neg (by omega)]
    have b1:=k.re_in (i:=i) hi
    have b2:=k.re_in (i:=i - 1) (by omega)
    have b3:=k.cf_in (i:=i) hi
    have b4:=k.cf_in (i:=i - 1) (by omega)
    have b5:=k.le (i:=i - 1) (j:=i) (by omega) hi
    rw [hfr]
    unfold mid at hm ⊢
    clear hfr
    generalize re.getD (i - 1) 0=p at *
    generalize re.getD i 0=q at *
    generalize cf.getD (i - 1) 0=c at *
    generalize cf.getD i 0=d at *
    have hz:q - p≠0:=by omega
    have hdv:=xEy (n:=(c - d) * (r - p)) (g:=q - p) ⟨hm.1.1,by omega⟩ (by omega)
    (repeat' (first
  | (with_reducible first|refine zJw ?_|refine zHz ?_|refine zEv ?_|refine zEw ?_|refine zFz ?_|refine zJv ?_|refine zHy ?_|refine zBv ?_|refine zDx ?_|refine zCz ?_|refine zCw ?_|refine zEy ?_|refine zCv ?_|refine zCy ?_|refine zBy ?_|refine zDv ?_|refine zEz ?_|refine zAw ?_|refine zBz ?_)
  | refine zDz ?_|refine zEx rfl ?_|refine zJy ?_|refine zJx ?_
  | ((first|refine zGv rfl rfl rfl rfl rfl fun K_ hK_=>?_|refine zGw rfl rfl rfl rfl rfl fun K_ hK_=>?_);simp only [zAz,zDy,zGx,↓reduceIte,reduceCtorEq,Nat.reduceEqDiff,Bool.not_true,Bool.not_false];refine hK_ _ ?_;clear hK_ K_)
  | refine zDw (by decide) ?_
  | ((try first|refine zKy rfl rfl rfl ?_|refine zJz rfl rfl ?_|refine zKx rfl rfl rfl ?_|refine zIv rfl rfl ?_);(refine zIw fun Q_ hQ_=>?_;simp (disch:=first|omega|(simp only [List.length_cons,List.length_nil,List.length_append];omega)) only [bb,bp,zLy,↓reduceIte,reduceCtorEq,Nat.reduceEqDiff,Nat.reduceLT,Nat.reduceLeDiff,Nat.reduceAdd,Nat.reduceMul,Nat.reduceSub,Nat.reduceBEq,Int.reduceToNat,cond_true,cond_false,eq_self,beq_self_eq_true,ha,e,fa,fb,fa',fb',zFx wf,zGy wf,zBw wf,zFy wf,zAy wf,zAx,tEvD5,zIx,zIy,zIz,zHv,zFv,zAv wf];first|(refine zCx (Q:=Q_) (fun hp_=>?_) (fun hp_=>?_) <;> first|(exfalso;omega)|(refine hQ_ _ _ ?_;clear hQ_ Q_))|(refine zBx (Q:=Q_) (fun hp_=>?_) (fun hp_=>?_) <;> first|(exfalso;omega)|(refine hQ_ _ _ ?_;clear hQ_ Q_))|(refine hQ_ _ _ ?_;clear hQ_ Q_)|(refine zRv (behind a b re cf r _ (x.up _ _ (by simp only [List.length_append,List.length_cons,List.length_nil];omega)) hn.2) ?_;refine hQ_ _ _ ?_;clear hQ_ Q_)))
  | (refine zHx fun K_ hK_=>?_;simp (disch:=omega) only [zGz,zAz,zHw,↓reduceIte,reduceCtorEq,Nat.reduceEqDiff,Nat.reduceLT];refine hK_ _ ?_;clear hK_ K_)))
    refine zLv [.no,.no,.no,.no,.no,.no,.no,.no,.no,.no,.no,.no,.no,.no,.full] (by kernel_rfl) ?_
    (repeat' (first
  | (with_reducible first|refine zJw ?_|refine zHz ?_|refine zEv ?_|refine zEw ?_|refine zFz ?_|refine zJv ?_|refine zHy ?_|refine zBv ?_|refine zDx ?_|refine zCz ?_|refine zCw ?_|refine zEy ?_|refine zCv ?_|refine zCy ?_|refine zBy ?_|refine zDv ?_|refine zEz ?_|refine zAw ?_|refine zBz ?_)
  | refine zDz ?_|refine zEx rfl ?_|refine zJy ?_|refine zJx ?_
  | ((first|refine zGv rfl rfl rfl rfl rfl fun K_ hK_=>?_|refine zGw rfl rfl rfl rfl rfl fun K_ hK_=>?_);simp only [zAz,zDy,zGx,↓reduceIte,reduceCtorEq,Nat.reduceEqDiff,Bool.not_true,Bool.not_false];refine hK_ _ ?_;clear hK_ K_)
  | refine zDw (by decide) ?_
  | ((try first|refine zKy rfl rfl rfl ?_|refine zJz rfl rfl ?_|refine zKx rfl rfl rfl ?_|refine zIv rfl rfl ?_);(refine zIw fun Q_ hQ_=>?_;simp (disch:=first|omega|(simp only [List.length_cons,List.length_nil,List.length_append];omega)) only [bb,bp,zLy,↓reduceIte,reduceCtorEq,Nat.reduceEqDiff,Nat.reduceLT,Nat.reduceLeDiff,Nat.reduceAdd,Nat.reduceMul,Nat.reduceSub,Nat.reduceBEq,Int.reduceToNat,cond_true,cond_false,eq_self,beq_self_eq_true,ha,e,fa,fb,fa',fb',hxa,hla,hxp,hlp,zFx wf,zGy wf,zBw wf,zFy wf,zAy wf,zAx,tEvD5,zIx,zIy,zIz,zHv,zFv,zAv wf];first|(refine zCx (Q:=Q_) (fun hp_=>?_) (fun hp_=>?_) <;> first|(exfalso;omega)|(refine hQ_ _ _ ?_;clear hQ_ Q_))|(refine zBx (Q:=Q_) (fun hp_=>?_) (fun hp_=>?_) <;> first|(exfalso;omega)|(refine hQ_ _ _ ?_;clear hQ_ Q_))|(refine hQ_ _ _ ?_;clear hQ_ Q_)))
  | (refine zHx fun K_ hK_=>?_;simp (disch:=omega) only [zGz,zAz,zHw,↓reduceIte,reduceCtorEq,Nat.reduceEqDiff,Nat.reduceLT];refine hK_ _ ?_;clear hK_ K_)))
    refine zLv [.no,.no,.no,.no,.no,.no,.no,.no,.no,.no,.no,.no,.no,.no,.full] (by kernel_rfl) ?_
    (repeat' (first
  | (with_reducible first|refine zJw ?_|refine zHz ?_|refine zEv ?_|refine zEw ?_|refine zFz ?_|refine zJv ?_|refine zHy ?_|refine zBv ?_|refine zDx ?_|refine zCz ?_|refine zCw ?_|refine zEy ?_|refine zCv ?_|refine zCy ?_|refine zBy ?_|refine zDv ?_|refine zEz ?_|refine zAw ?_|refine zBz ?_)
  | refine zDz ?_|refine zEx rfl ?_|refine zJy ?_|refine zJx ?_
  | ((first|refine zGv rfl rfl rfl rfl rfl fun K_ hK_=>?_|refine zGw rfl rfl rfl rfl rfl fun K_ hK_=>?_);simp only [zAz,zDy,zGx,↓reduceIte,reduceCtorEq,Nat.reduceEqDiff,Bool.not_true,Bool.not_false];refine hK_ _ ?_;clear hK_ K_)
  | refine zDw (by decide) ?_
  | ((try first|refine zKy rfl rfl rfl ?_|refine zJz rfl rfl ?_|refine zKx rfl rfl rfl ?_|refine zIv rfl rfl ?_);(refine zIw fun Q_ hQ_=>?_;simp (disch:=first|omega|(simp only [List.length_cons,List.length_nil,List.length_append];omega)) only [bb,bp,zLy,↓reduceIte,reduceCtorEq,Nat.reduceEqDiff,Nat.reduceLT,Nat.reduceLeDiff,Nat.reduceAdd,Nat.reduceMul,Nat.reduceSub,Nat.reduceBEq,Int.reduceToNat,cond_true,cond_false,eq_self,beq_self_eq_true,ha,e,fa,fb,fa',fb',hxb,hlb,hxq,hlq,b_quo hz,hdv,zFx wf,zGy wf,zBw wf,zFy wf,zAy wf,zAx,tEvD5,zIx,zIy,zIz,zHv,zFv,zAv wf];first|(refine zCx (Q:=Q_) (fun hp_=>?_) (fun hp_=>?_) <;> first|(exfalso;omega)|(refine hQ_ _ _ ?_;clear hQ_ Q_))|(refine zBx (Q:=Q_) (fun hp_=>?_) (fun hp_=>?_) <;> first|(exfalso;omega)|(refine hQ_ _ _ ?_;clear hQ_ Q_))|(refine hQ_ _ _ ?_;clear hQ_ Q_)))
  | (refine zHx fun K_ hK_=>?_;simp (disch:=omega) only [zGz,zAz,zHw,↓reduceIte,reduceCtorEq,Nat.reduceEqDiff,Nat.reduceLT];refine hK_ _ ?_;clear hK_ K_)))
    (refine zKz _ _ rfl (ret1 (by decide)) ?_;simp only [zAz,↓reduceIte,reduceCtorEq,Nat.reduceEqDiff];refine zKw rfl (by omega) ?_)
    exact ⟨rfl,rfl⟩

def fricErr (re cf:List Int) (r:Int):Int:=if lineErr re cf≠0 then lineErr re cf else if has re r then 0 else 19
def fricVal (re cf:List Int) (r:Int):Int:=if lineErr re cf≠0 then 0 else if has re r then fr re cf r else 0
end Go.Proofs.Ythaleckfgcgegaa
end

section
namespace Go.Proofs.Ythaleckfgcgegaa
open Go.Ev
set_option maxRecDepth 100000
set_option linter.unusedSimpArgs false
set_option linter.unusedVariables false
set_option maxHeartbeats 2000000
theorem tEvD6 :type_of% (And.intro (And.intro (And.intro (And.intro (And.intro (And.intro (And.intro (@yWz) (@yVv)) (And.intro (@yVw) (And.intro (@yVx) (@yVy)))) (And.intro (And.intro (@yVz) (And.intro (@yUv) (@yUw))) (And.intro (@zVy) (And.intro (@ia_2) (@sz_2))))) (And.intro (And.intro (And.intro (@ia_3) (@sz_3)) (And.intro (@ia_4) (And.intro (@sz_4) (@yUx)))) (And.intro (And.intro (@yDw) (And.intro (@yUy) (@yDx))) (And.intro (@yUz) (And.intro (@yDy) (@yTv)))))) (And.intro (And.intro (And.intro (And.intro (@zWw) (@yTw)) (And.intro (@yDz) (And.intro (@yTx) (@yCv)))) (And.intro (And.intro (@yTy) (And.intro (@yCw) (@yTz))) (And.intro (@yCx) (And.intro (@ySv) (@yCy))))) (And.intro (And.intro (And.intro (@ySw) (@yCz)) (And.intro (@ySx) (And.intro (@zXz) (@ySy)))) (And.intro (And.intro (@yBv) (And.intro (@ySz) (@yBw))) (And.intro (@yRv) (And.intro (@yBx) (@yRw))))))) (And.intro (And.intro (And.intro (And.intro (And.intro (@yBy) (@yRx)) (And.intro (@yBz) (And.intro (@yRy) (@yAv)))) (And.intro (And.intro (@yRz) (And.intro (@yAw) (@yQv))) (And.intro (@yAx) (And.intro (@yQw) (@yAy))))) (And.intro (And.intro (And.intro (@yQx) (@yAz)) (And.intro (@zVz) (And.intro (@zTw) (@zUv)))) (And.intro (And.intro (@zTx) (And.intro (@zUw) (@zTy))) (And.intro (@zUx) (And.intro (@zTz) (@zUy)))))) (And.intro (And.intro (And.intro (And.intro (@zSv) (@zUz)) (And.intro (@zSw) (And.intro (@zTv) (@zSx)))) (And.intro (And.intro (@ze_2) (And.intro (@ze_3) (@ze_4))) (And.intro (@zZv) (And.intro (@zZw) (@zZx))))) (And.intro (And.intro (And.intro (@zZy) (And.intro (@zZz) (@zYv))) (And.intro (@zYw) (And.intro (@zYx) (@zYy)))) (And.intro (And.intro (@zSy) (And.intro (@zRx) (@zRy))) (And.intro (@zRz) (And.intro (@zQv) (@zQw)))))))) (And.intro (And.intro (And.intro (And.intro (And.intro (And.intro (@zQx) (@zQy)) (And.intro (@zQz) (And.intro (@zPv) (@zPw)))) (And.intro (And.intro (@zPx) (And.intro (@zPy) (@zPz))) (And.intro (@zOv) (And.intro (@zOw) (@zOx))))) (And.intro (And.intro (And.intro (@zOy) (@zOz)) (And.intro (@zNv) (And.intro (@zNw) (@zNx)))) (And.intro (And.intro (@zNy) (And.intro (@zNz) (@zMv))) (And.intro (@zMw) (And.intro (@zMx) (@zMy)))))) (And.intro (And.intro (And.intro (And.intro (@zMz) (@yQy)) (And.intro (@yQz) (And.intro (@yPv) (@yPw)))) (And.intro (And.intro (@yPx) (And.intro (@yPy) (@yPz))) (And.intro (@yOv) (And.intro (@yOw) (@yOx))))) (And.intro (And.intro (And.intro (@yOy) (And.intro (@yOz) (@yNv))) (And.intro (@yNw) (And.intro (@yNx) (@yNy)))) (And.intro (And.intro (@yNz) (And.intro (@yMv) (@yMw))) (And.intro (@yMx) (And.intro (@yMy) (@yMz))))))) (And.intro (And.intro (And.intro (And.intro (And.intro (@yLv) (@yLw)) (And.intro (@yLx) (And.intro (@yLy) (@yLz)))) (And.intro (And.intro (@yKv) (And.intro (@yKw) (@yKx))) (And.intro (@yKy) (And.intro (@yKz) (@yJv))))) (And.intro (And.intro (And.intro (@yJw) (@yJx)) (And.intro (@yJy) (And.intro (@yJz) (@yIv)))) (And.intro (And.intro (@yIw) (And.intro (@yIx) (@yIy))) (And.intro (@yIz) (And.intro (@yHv) (@yHw)))))) (And.intro (And.intro (And.intro (And.intro (@yHx) (@yHy)) (And.intro (@yHz) (And.intro (@yGv) (@yGw)))) (And.intro (And.intro (@yGx) (And.intro (@zYz) (@zXv))) (And.intro (@yGy) (And.intro (@yGz) (@yFv))))) (And.intro (And.intro (And.intro (@yFw) (And.intro (@yFx) (@yFy))) (And.intro (@yFz) (And.intro (@yEv) (@yEw)))) (And.intro (And.intro (@yEx) (And.intro (@yEy) (@zXw))) (And.intro (@yEz) (And.intro (@yDv) (@zXx))))))))):=And.intro (And.intro (And.intro (And.intro (And.intro (And.intro (And.intro (@yWz) (@yVv)) (And.intro (@yVw) (And.intro (@yVx) (@yVy)))) (And.intro (And.intro (@yVz) (And.intro (@yUv) (@yUw))) (And.intro (@zVy) (And.intro (@ia_2) (@sz_2))))) (And.intro (And.intro (And.intro (@ia_3) (@sz_3)) (And.intro (@ia_4) (And.intro (@sz_4) (@yUx)))) (And.intro (And.intro (@yDw) (And.intro (@yUy) (@yDx))) (And.intro (@yUz) (And.intro (@yDy) (@yTv)))))) (And.intro (And.intro (And.intro (And.intro (@zWw) (@yTw)) (And.intro (@yDz) (And.intro (@yTx) (@yCv)))) (And.intro (And.intro (@yTy) (And.intro (@yCw) (@yTz))) (And.intro (@yCx) (And.intro (@ySv) (@yCy))))) (And.intro (And.intro (And.intro (@ySw) (@yCz)) (And.intro (@ySx) (And.intro (@zXz) (@ySy)))) (And.intro (And.intro (@yBv) (And.intro (@ySz) (@yBw))) (And.intro (@yRv) (And.intro (@yBx) (@yRw))))))) (And.intro (And.intro (And.intro (And.intro (And.intro (@yBy) (@yRx)) (And.intro (@yBz) (And.intro (@yRy) (@yAv)))) (And.intro (And.intro (@yRz) (And.intro (@yAw) (@yQv))) (And.intro (@yAx) (And.intro (@yQw) (@yAy))))) (And.intro (And.intro (And.intro (@yQx) (@yAz)) (And.intro (@zVz) (And.intro (@zTw) (@zUv)))) (And.intro (And.intro (@zTx) (And.intro (@zUw) (@zTy))) (And.intro (@zUx) (And.intro (@zTz) (@zUy)))))) (And.intro (And.intro (And.intro (And.intro (@zSv) (@zUz)) (And.intro (@zSw) (And.intro (@zTv) (@zSx)))) (And.intro (And.intro (@ze_2) (And.intro (@ze_3) (@ze_4))) (And.intro (@zZv) (And.intro (@zZw) (@zZx))))) (And.intro (And.intro (And.intro (@zZy) (And.intro (@zZz) (@zYv))) (And.intro (@zYw) (And.intro (@zYx) (@zYy)))) (And.intro (And.intro (@zSy) (And.intro (@zRx) (@zRy))) (And.intro (@zRz) (And.intro (@zQv) (@zQw)))))))) (And.intro (And.intro (And.intro (And.intro (And.intro (And.intro (@zQx) (@zQy)) (And.intro (@zQz) (And.intro (@zPv) (@zPw)))) (And.intro (And.intro (@zPx) (And.intro (@zPy) (@zPz))) (And.intro (@zOv) (And.intro (@zOw) (@zOx))))) (And.intro (And.intro (And.intro (@zOy) (@zOz)) (And.intro (@zNv) (And.intro (@zNw) (@zNx)))) (And.intro (And.intro (@zNy) (And.intro (@zNz) (@zMv))) (And.intro (@zMw) (And.intro (@zMx) (@zMy)))))) (And.intro (And.intro (And.intro (And.intro (@zMz) (@yQy)) (And.intro (@yQz) (And.intro (@yPv) (@yPw)))) (And.intro (And.intro (@yPx) (And.intro (@yPy) (@yPz))) (And.intro (@yOv) (And.intro (@yOw) (@yOx))))) (And.intro (And.intro (And.intro (@yOy) (And.intro (@yOz) (@yNv))) (And.intro (@yNw) (And.intro (@yNx) (@yNy)))) (And.intro (And.intro (@yNz) (And.intro (@yMv) (@yMw))) (And.intro (@yMx) (And.intro (@yMy) (@yMz))))))) (And.intro (And.intro (And.intro (And.intro (And.intro (@yLv) (@yLw)) (And.intro (@yLx) (And.intro (@yLy) (@yLz)))) (And.intro (And.intro (@yKv) (And.intro (@yKw) (@yKx))) (And.intro (@yKy) (And.intro (@yKz) (@yJv))))) (And.intro (And.intro (And.intro (@yJw) (@yJx)) (And.intro (@yJy) (And.intro (@yJz) (@yIv)))) (And.intro (And.intro (@yIw) (And.intro (@yIx) (@yIy))) (And.intro (@yIz) (And.intro (@yHv) (@yHw)))))) (And.intro (And.intro (And.intro (And.intro (@yHx) (@yHy)) (And.intro (@yHz) (And.intro (@yGv) (@yGw)))) (And.intro (And.intro (@yGx) (And.intro (@zYz) (@zXv))) (And.intro (@yGy) (And.intro (@yGz) (@yFv))))) (And.intro (And.intro (And.intro (@yFw) (And.intro (@yFx) (@yFy))) (And.intro (@yFz) (And.intro (@yEv) (@yEw)))) (And.intro (And.intro (@yEx) (And.intro (@yEy) (@zXw))) (And.intro (@yEz) (And.intro (@yDv) (@zXx))))))))
theorem refFric (a b:AV) (re cf:List Int) (r:Int) (h:H) (x:LineR h a b re cf) (k:okL re cf):(om Try.prog KK).call (.fn 40 [.agg [a,b],ii r]) h = .ok (.tup [ii (if has re r then fr re cf r else 0),.bool (decide (has re r))]) h:=by
  have wf:=x.wf
  have hn:=k.n
  have hce:=k.e
  obtain ⟨⟨fa,fa'⟩,⟨fb,fb'⟩⟩:=x.flats
  have ha : ∀ h',lenE Try.prog 22 a h'=some (ii (re.length:Int)):=fun h'=>x.re.len yZw
  refine zWy (zLx (fn:=Try.f40) Try.func40 rfl rfl rfl rfl rfl ?_)
  simp only [zLy]
  (repeat' (first
  | (with_reducible first|refine zJw ?_|refine zHz ?_|refine zEv ?_|refine zEw ?_|refine zFz ?_|refine zJv ?_|refine zHy ?_|refine zBv ?_|refine zDx ?_|refine zCz ?_|refine zCw ?_|refine zEy ?_|refine zCv ?_|refine zCy ?_|refine zBy ?_|refine zDv ?_|refine zEz ?_|refine zAw ?_|refine zBz ?_)
  | refine zDz ?_|refine zEx rfl ?_|refine zJy ?_|refine zJx ?_
  | ((first|refine zGv rfl rfl rfl rfl rfl fun K_ hK_=>?_|refine zGw rfl rfl rfl rfl rfl fun K_ hK_=>?_);simp only [zAz,zDy,zGx,↓reduceIte,reduceCtorEq,Nat.reduceEqDiff,Bool.not_true,Bool.not_false];refine hK_ _ ?_;clear hK_ K_)
  | refine zDw (by decide) ?_
  | ((try first|refine zKy rfl rfl rfl ?_|refine zJz rfl rfl ?_|refine zKx rfl rfl rfl ?_|refine zIv rfl rfl ?_);(refine zIw fun Q_ hQ_=>?_;simp (disch:=first|omega|(simp only [List.length_cons,List.length_nil,List.length_append];omega)) only [bb,bp,zLy,↓reduceIte,reduceCtorEq,Nat.reduceEqDiff,Nat.reduceLT,Nat.reduceLeDiff,Nat.reduceAdd,Nat.reduceMul,Nat.reduceSub,Nat.reduceBEq,Int.reduceToNat,cond_true,cond_false,eq_self,beq_self_eq_true,fa,fb,fa',fb',zFx wf,zGy wf,zBw wf,zFy wf,zAy wf,zAx,tEvD6,zIx,zIy,zIz,zHv,zFv,zAv wf];first|(refine zCx (Q:=Q_) (fun hp_=>?_) (fun hp_=>?_) <;> first|(exfalso;omega)|(refine hQ_ _ _ ?_;clear hQ_ Q_))|(refine zBx (Q:=Q_) (fun hp_=>?_) (fun hp_=>?_) <;> first|(exfalso;omega)|(refine hQ_ _ _ ?_;clear hQ_ Q_))|(refine hQ_ _ _ ?_;clear hQ_ Q_)))
  | (refine zHx fun K_ hK_=>?_;simp (disch:=omega) only [zGz,zAz,zHw,↓reduceIte,reduceCtorEq,Nat.reduceEqDiff,Nat.reduceLT];refine hK_ _ ?_;clear hK_ K_)))
  refine zVw (fun (i:Nat) f d h'=>i≤re.length∧(i=0∨r<re.getD 0 0∨re.getD (i - 1) 0<r)∧f 1=ii r∧f 2 = .ptr (nx h 0) 0∧f 6=ii (i:Int)∧d=[]∧h'=X h [.cells (zFw [a,b]) 24] h.clock) (fun i=>re.length - i) ?_ (re.length+1) 0 (by omega) ?_
  · rintro i f d h' ⟨hi,hinv,g1,g2,g6,rfl,rfl⟩
    by_cases hlt:i<re.length
    · obtain ⟨ia,oa,hxa,hla⟩:=yWx wf x.re hlt
      obtain ⟨ib,ob,hxb,hlb⟩:=yWx wf x.cf (i:=i) (by omega)
      have b1:=k.re_in (i:=i) hlt
      by_cases heq:re.getD i 0=r
      · have hh:has re r:=by
          refine ⟨?_,?_⟩
          · rcases Nat.eq_zero_or_pos i with e|e
            · rw [← heq,e];exact Int.le_refl _
            · have:=k.lt (i:=0) (j:=i) e hlt;omega
          · by_cases e:i=re.length - 1
            · rw [← e];omega
            · have:=k.lt (i:=i) (j:=re.length - 1) (by omega) (by omega);omega
        have hfr:fr re cf r=cf.getD i 0:=by
          unfold fr
          by_cases e:i=re.length - 1
          · rw [if_pos (beh_end fun j hj=>?_),e]
            by_cases e2:j=i
            · rw [e2];omega
            · have:=k.lt (i:=j) (j:=i) (by omega) hlt;omega
          · have h1:=k.lt (i:=i) (j:=i+1) (by omega) (by omega)
            have hb:beh re r=i+1:=beh_at (by omega) (by omega) fun j hj=>by
              by_cases e2:j=i
              · rw [e2];omega
              · have:=k.lt (i:=j) (j:=i) (by omega) hlt;omega
            rw [hb,if_neg (by omega)]
            unfold mid
            rw [Nat.add_sub_cancel,heq,Int.sub_self,Int.mul_zero,Int.zero_ediv,Int.sub_zero]
        have hd1:decide (has re r)=true:=decide_eq_true hh
        rw [if_pos hh,hd1,hfr]
        (repeat' (first
  | (with_reducible first|refine zJw ?_|refine zHz ?_|refine zEv ?_|refine zEw ?_|refine zFz ?_|refine zJv ?_|refine zHy ?_|refine zBv ?_|refine zDx ?_|refine zCz ?_|refine zCw ?_|refine zEy ?_|refine zCv ?_|refine zCy ?_|refine zBy ?_|refine zDv ?_|refine zEz ?_|refine zAw ?_|refine zBz ?_)
  | refine zDz ?_|refine zEx rfl ?_|refine zJy ?_|refine zJx ?_
  | ((first|refine zGv rfl rfl rfl rfl rfl fun K_ hK_=>?_|refine zGw rfl rfl rfl rfl rfl fun K_ hK_=>?_);simp only [zAz,zDy,zGx,↓reduceIte,reduceCtorEq,Nat.reduceEqDiff,Bool.not_true,Bool.not_false];refine hK_ _ ?_;clear hK_ K_)
  | refine zDw (by decide) ?_
  | ((try first|refine zKy rfl rfl rfl ?_|refine zJz rfl rfl ?_|refine zKx rfl rfl rfl ?_|refine zIv rfl rfl ?_);(refine zIw fun Q_ hQ_=>?_;simp (disch:=first|omega|(simp only [List.length_cons,List.length_nil,List.length_append];omega)) only [bb,bp,zLy,↓reduceIte,reduceCtorEq,Nat.reduceEqDiff,Nat.reduceLT,Nat.reduceLeDiff,Nat.reduceAdd,Nat.reduceMul,Nat.reduceSub,Nat.reduceBEq,Int.reduceToNat,cond_true,cond_false,eq_self,beq_self_eq_true,g1,g2,g6,ha,hxa,hla,hxb,hlb,zFx wf,zGy wf,zBw wf,zFy wf,zAy wf,zAx,tEvD6,zIx,zIy,zIz,zHv,zFv,zAv wf];first|(refine zCx (Q:=Q_) (fun hp_=>?_) (fun hp_=>?_) <;> first|(exfalso;omega)|(refine hQ_ _ _ ?_;clear hQ_ Q_))|(refine zBx (Q:=Q_) (fun hp_=>?_) (fun hp_=>?_) <;> first|(exfalso;omega)|(refine hQ_ _ _ ?_;clear hQ_ Q_))|(refine hQ_ _ _ ?_;clear hQ_ Q_)))
  | (refine zHx fun K_ hK_=>?_;simp (disch:=omega) only [zGz,zAz,zHw,↓reduceIte,reduceCtorEq,Nat.reduceEqDiff,Nat.reduceLT];refine hK_ _ ?_;clear hK_ K_)))
        (refine zKz _ _ rfl (ret2 (by decide) (by decide)) ?_;simp only [zAz,↓reduceIte,reduceCtorEq,Nat.reduceEqDiff];refine zKw rfl (by omega) ?_)
        exact ⟨rfl,rfl⟩
      · by_cases hi0:0<i
        · obtain ⟨ip,op,hxp,hlp⟩:=yWx wf x.re (i:=i - 1) (by omega)
          obtain ⟨iq,oq,hxq,hlq⟩:=yWx wf x.cf (i:=i - 1) (by omega)
          rw [show ((i - 1:Nat):Int)=(i:Int) - 1 from by omega] at hxp hxq
          by_cases hbt:re.getD (i - 1) 0<r∧r<re.getD i 0
          · have hh:has re r:=by
              refine ⟨?_,?_⟩
              · by_cases e:i - 1=0
                · rw [← e];omega
                · have:=k.lt (i:=0) (j:=i - 1) (by omega) (by omega);omega
              · by_cases e:i=re.length - 1
                · rw [← e];omega
                · have:=k.lt (i:=i) (j:=re.length - 1) (by omega) (by omega);omega
            have hb:beh re r=i:=beh_at hlt hbt.2 fun j hj=>by
              by_cases e2:j=i - 1
              · rw [e2];omega
              · have:=k.lt (i:=j) (j:=i - 1) (by omega) (by omega);omega
            have hfr:fr re cf r=mid re cf i r:=by unfold fr;rw [hb,if_neg (by omega)]
            have hd1:decide (has re r)=true:=decide_eq_true hh
            have hm:=mid_in k hi0 hlt (by omega) hbt.2
            have b2:=k.re_in (i:=i - 1) (by omega)
            have b3:=k.cf_in (i:=i) hlt
            have b4:=k.cf_in (i:=i - 1) (by omega)
            have b5:=k.le (i:=i - 1) (j:=i) (by omega) hlt
            rw [if_pos hh,hd1,hfr]
            unfold mid at hm ⊢
            clear hfr
            generalize re.getD (i - 1) 0=p at *
            generalize re.getD i 0=q at *
            generalize cf.getD (i - 1) 0=c at *
            generalize cf.getD i 0=d at *
            have hz:q - p≠0:=by omega
            have hdv:=xEy (n:=(c - d) * (r - p)) (g:=q - p) ⟨hm.1.1,by omega⟩ (by omega)
            (repeat' (first
  | (with_reducible first|refine zJw ?_|refine zHz ?_|refine zEv ?_|refine zEw ?_|refine zFz ?_|refine zJv ?_|refine zHy ?_|refine zBv ?_|refine zDx ?_|refine zCz ?_|refine zCw ?_|refine zEy ?_|refine zCv ?_|refine zCy ?_|refine zBy ?_|refine zDv ?_|refine zEz ?_|refine zAw ?_|refine zBz ?_)
  | refine zDz ?_|refine zEx rfl ?_|refine zJy ?_|refine zJx ?_
  | ((first|refine zGv rfl rfl rfl rfl rfl fun K_ hK_=>?_|refine zGw rfl rfl rfl rfl rfl fun K_ hK_=>?_);simp only [zAz,zDy,zGx,↓reduceIte,reduceCtorEq,Nat.reduceEqDiff,Bool.not_true,Bool.not_false];refine hK_ _ ?_;clear hK_ K_)
  | refine zDw (by decide) ?_
  | ((try first|refine zKy rfl rfl rfl ?_|refine zJz rfl rfl ?_|refine zKx rfl rfl rfl ?_|refine zIv rfl rfl ?_);(refine zIw fun Q_ hQ_=>?_;simp (disch:=first|omega|(simp only [List.length_cons,List.length_nil,List.length_append];omega)) only [bb,bp,zLy,↓reduceIte,reduceCtorEq,Nat.reduceEqDiff,Nat.reduceLT,Nat.reduceLeDiff,Nat.reduceAdd,Nat.reduceMul,Nat.reduceSub,Nat.reduceBEq,Int.reduceToNat,cond_true,cond_false,eq_self,beq_self_eq_true,g1,g2,g6,ha,hxa,hla,hxb,hlb,hxp,hlp,hxq,hlq,zFx wf,zGy wf,zBw wf,zFy wf,zAy wf,zAx,tEvD6,zIx,zIy,zIz,zHv,zFv,zAv wf];first|(refine zCx (Q:=Q_) (fun hp_=>?_) (fun hp_=>?_) <;> first|(exfalso;omega)|(refine hQ_ _ _ ?_;clear hQ_ Q_))|(refine zBx (Q:=Q_) (fun hp_=>?_) (fun hp_=>?_) <;> first|(exfalso;omega)|(refine hQ_ _ _ ?_;clear hQ_ Q_))|(refine hQ_ _ _ ?_;clear hQ_ Q_)))
  | (refine zHx fun K_ hK_=>?_;simp (disch:=omega) only [zGz,zAz,zHw,↓reduceIte,reduceCtorEq,Nat.reduceEqDiff,Nat.reduceLT];refine hK_ _ ?_;clear hK_ K_)))
            refine zLv (List.replicate 25 .no++[.full]) (by kernel_rfl) ?_
            (repeat' (first
  | (with_reducible first|refine zJw ?_|refine zHz ?_|refine zEv ?_|refine zEw ?_|refine zFz ?_|refine zJv ?_|refine zHy ?_|refine zBv ?_|refine zDx ?_|refine zCz ?_|refine zCw ?_|refine zEy ?_|refine zCv ?_|refine zCy ?_|refine zBy ?_|refine zDv ?_|refine zEz ?_|refine zAw ?_|refine zBz ?_)
  | refine zDz ?_|refine zEx rfl ?_|refine zJy ?_|refine zJx ?_
  | ((first|refine zGv rfl rfl rfl rfl rfl fun K_ hK_=>?_|refine zGw rfl rfl rfl rfl rfl fun K_ hK_=>?_);simp only [zAz,zDy,zGx,↓reduceIte,reduceCtorEq,Nat.reduceEqDiff,Bool.not_true,Bool.not_false];refine hK_ _ ?_;clear hK_ K_)
  | refine zDw (by decide) ?_
  | ((try first|refine zKy rfl rfl rfl ?_|refine zJz rfl rfl ?_|refine zKx rfl rfl rfl ?_|refine zIv rfl rfl ?_);(refine zIw fun Q_ hQ_=>?_;simp (disch:=first|omega|(simp only [List.length_cons,List.length_nil,List.length_append];omega)) only [bb,bp,zLy,↓reduceIte,reduceCtorEq,Nat.reduceEqDiff,Nat.reduceLT,Nat.reduceLeDiff,Nat.reduceAdd,Nat.reduceMul,Nat.reduceSub,Nat.reduceBEq,Int.reduceToNat,cond_true,cond_false,eq_self,beq_self_eq_true,g1,g2,g6,ha,hxa,hla,hxb,hlb,hxp,hlp,hxq,hlq,b_quo hz,hdv,zFx wf,zGy wf,zBw wf,zFy wf,zAy wf,zAx,tEvD6,zIx,zIy,zIz,zHv,zFv,zAv wf];first|(refine zCx (Q:=Q_) (fun hp_=>?_) (fun hp_=>?_) <;> first|(exfalso;omega)|(refine hQ_ _ _ ?_;clear hQ_ Q_))|(refine zBx (Q:=Q_) (fun hp_=>?_) (fun hp_=>?_) <;> first|(exfalso;omega)|(refine hQ_ _ _ ?_;clear hQ_ Q_))|(refine hQ_ _ _ ?_;clear hQ_ Q_)))
  | (refine zHx fun K_ hK_=>?_;simp (disch:=omega) only [zGz,zAz,zHw,↓reduceIte,reduceCtorEq,Nat.reduceEqDiff,Nat.reduceLT];refine hK_ _ ?_;clear hK_ K_)))
            (refine zKz _ _ rfl (ret2 (by decide) (by decide)) ?_;simp only [zAz,↓reduceIte,reduceCtorEq,Nat.reduceEqDiff];refine zKw rfl (by omega) ?_)
            exact ⟨rfl,rfl⟩
          · (repeat' (first
  | (with_reducible first|refine zJw ?_|refine zHz ?_|refine zEv ?_|refine zEw ?_|refine zFz ?_|refine zJv ?_|refine zHy ?_|refine zBv ?_|refine zDx ?_|refine zCz ?_|refine zCw ?_|refine zEy ?_|refine zCv ?_|refine zCy ?_|refine zBy ?_|refine zDv ?_|refine zEz ?_|refine zAw ?_|refine zBz ?_)
  | refine zDz ?_|refine zEx rfl ?_|refine zJy ?_|refine zJx ?_
  | ((first|refine zGv rfl rfl rfl rfl rfl fun K_ hK_=>?_|refine zGw rfl rfl rfl rfl rfl fun K_ hK_=>?_);simp only [zAz,zDy,zGx,↓reduceIte,reduceCtorEq,Nat.reduceEqDiff,Bool.not_true,Bool.not_false];refine hK_ _ ?_;clear hK_ K_)
  | refine zDw (by decide) ?_
  | ((try first|refine zKy rfl rfl rfl ?_|refine zJz rfl rfl ?_|refine zKx rfl rfl rfl ?_|refine zIv rfl rfl ?_);(refine zIw fun Q_ hQ_=>?_;simp (disch:=first|omega|(simp only [List.length_cons,List.length_nil,List.length_append];omega)) only [bb,bp,zLy,↓reduceIte,reduceCtorEq,Nat.reduceEqDiff,Nat.reduceLT,Nat.reduceLeDiff,Nat.reduceAdd,Nat.reduceMul,Nat.reduceSub,Nat.reduceBEq,Int.reduceToNat,cond_true,cond_false,eq_self,beq_self_eq_true,g1,g2,g6,ha,hxa,hla,hxb,hlb,hxp,hlp,hxq,hlq,zFx wf,zGy wf,zBw wf,zFy wf,zAy wf,zAx,tEvD6,zIx,zIy,zIz,zHv,zFv,zAv wf];first|(refine zCx (Q:=Q_) (fun hp_=>?_) (fun hp_=>?_) <;> first|(exfalso;omega)|(refine hQ_ _ _ ?_;clear hQ_ Q_))|(refine zBx (Q:=Q_) (fun hp_=>?_) (fun hp_=>?_) <;> first|(exfalso;omega)|(refine hQ_ _ _ ?_;clear hQ_ Q_))|(refine hQ_ _ _ ?_;clear hQ_ Q_)))
  | (refine zHx fun K_ hK_=>?_;simp (disch:=omega) only [zGz,zAz,zHw,↓reduceIte,reduceCtorEq,Nat.reduceEqDiff,Nat.reduceLT];refine hK_ _ ?_;clear hK_ K_)))
            all_goals (refine zLz (i+1) (by omega) ⟨hlt,.inr ?_,by simp only [zAz,↓reduceIte,reduceCtorEq,Nat.reduceEqDiff];exact g1,by simp only [zAz,↓reduceIte,reduceCtorEq,Nat.reduceEqDiff];exact g2,by simp only [zAz,↓reduceIte,reduceCtorEq,Nat.reduceEqDiff];rfl,rfl,rfl⟩)
            all_goals (rw [Nat.add_sub_cancel];omega)
        · have e0:i=0:=by omega
          (repeat' (first
  | (with_reducible first|refine zJw ?_|refine zHz ?_|refine zEv ?_|refine zEw ?_|refine zFz ?_|refine zJv ?_|refine zHy ?_|refine zBv ?_|refine zDx ?_|refine zCz ?_|refine zCw ?_|refine zEy ?_|refine zCv ?_|refine zCy ?_|refine zBy ?_|refine zDv ?_|refine zEz ?_|refine zAw ?_|refine zBz ?_)
  | refine zDz ?_|refine zEx rfl ?_|refine zJy ?_|refine zJx ?_
  | ((first|refine zGv rfl rfl rfl rfl rfl fun K_ hK_=>?_|refine zGw rfl rfl rfl rfl rfl fun K_ hK_=>?_);simp only [zAz,zDy,zGx,↓reduceIte,reduceCtorEq,Nat.reduceEqDiff,Bool.not_true,Bool.not_false];refine hK_ _ ?_;clear hK_ K_)
  | refine zDw (by decide) ?_
  | ((try first|refine zKy rfl rfl rfl ?_|refine zJz rfl rfl ?_|refine zKx rfl rfl rfl ?_|refine zIv rfl rfl ?_);(refine zIw fun Q_ hQ_=>?_;simp (disch:=first|omega|(simp only [List.length_cons,List.length_nil,List.length_append];omega)) only [bb,bp,zLy,↓reduceIte,reduceCtorEq,Nat.reduceEqDiff,Nat.reduceLT,Nat.reduceLeDiff,Nat.reduceAdd,Nat.reduceMul,Nat.reduceSub,Nat.reduceBEq,Int.reduceToNat,cond_true,cond_false,eq_self,beq_self_eq_true,g1,g2,g6,ha,hxa,hla,hxb,hlb,zFx wf,zGy wf,zBw wf,zFy wf,zAy wf,zAx,tEvD6,zIx,zIy,zIz,zHv,zFv,zAv wf];first|(refine zCx (Q:=Q_) (fun hp_=>?_) (fun hp_=>?_) <;> first|(exfalso;omega)|(refine hQ_ _ _ ?_;clear hQ_ Q_))|(refine zBx (Q:=Q_) (fun hp_=>?_) (fun hp_=>?_) <;> first|(exfalso;omega)|(refine hQ_ _ _ ?_;clear hQ_ Q_))|(refine hQ_ _ _ ?_;clear hQ_ Q_)))
  | (refine zHx fun K_ hK_=>?_;simp (disch:=omega) only [zGz,zAz,zHw,↓reduceIte,reduceCtorEq,Nat.reduceEqDiff,Nat.reduceLT];refine hK_ _ ?_;clear hK_ K_)))
          refine zLz (i+1) (by omega) ⟨hlt,.inr ?_,by simp only [zAz,↓reduceIte,reduceCtorEq,Nat.reduceEqDiff];exact g1,by simp only [zAz,↓reduceIte,reduceCtorEq,Nat.reduceEqDiff];exact g2,by simp only [zAz,↓reduceIte,reduceCtorEq,Nat.reduceEqDiff];rfl,rfl,rfl⟩
          rw [Nat.add_sub_cancel]
          rw [e0] at heq ⊢
          omega
    · have hie:i=re.length:=by omega
      have hh : ¬ has re r:=fun hh=>by
        have h1:=hh.1
        have h2:=hh.2
        rw [hie] at hinv
        omega
      have hd1:decide (has re r)=false:=decide_eq_false hh
      rw [if_neg hh,hd1]
      (repeat' (first
  | (with_reducible first|refine zJw ?_|refine zHz ?_|refine zEv ?_|refine zEw ?_|refine zFz ?_|refine zJv ?_|refine zHy ?_|refine zBv ?_|refine zDx ?_|refine zCz ?_|refine zCw ?_|refine zEy ?_|refine zCv ?_|refine zCy ?_|refine zBy ?_|refine zDv ?_|refine zEz ?_|refine zAw ?_|refine zBz ?_)
  | refine zDz ?_|refine zEx rfl ?_|refine zJy ?_|refine zJx ?_
  | ((first|refine zGv rfl rfl rfl rfl rfl fun K_ hK_=>?_|refine zGw rfl rfl rfl rfl rfl fun K_ hK_=>?_);simp only [zAz,zDy,zGx,↓reduceIte,reduceCtorEq,Nat.reduceEqDiff,Bool.not_true,Bool.not_false];refine hK_ _ ?_;clear hK_ K_)
  | refine zDw (by decide) ?_
  | ((try first|refine zKy rfl rfl rfl ?_|refine zJz rfl rfl ?_|refine zKx rfl rfl rfl ?_|refine zIv rfl rfl ?_);(refine zIw fun Q_ hQ_=>?_;simp (disch:=first|omega|(simp only [List.length_cons,List.length_nil,List.length_append];omega)) only [bb,bp,zLy,↓reduceIte,reduceCtorEq,Nat.reduceEqDiff,Nat.reduceLT,Nat.reduceLeDiff,Nat.reduceAdd,Nat.reduceMul,Nat.reduceSub,Nat.reduceBEq,Int.reduceToNat,cond_true,cond_false,eq_self,beq_self_eq_true,g1,g2,g6,ha,zFx wf,zGy wf,zBw wf,zFy wf,zAy wf,zAx,tEvD6,zIx,zIy,zIz,zHv,zFv,zAv wf];first|(refine zCx (Q:=Q_) (fun hp_=>?_) (fun hp_=>?_) <;> first|(exfalso;omega)|(refine hQ_ _ _ ?_;clear hQ_ Q_))|(refine zBx (Q:=Q_) (fun hp_=>?_) (fun hp_=>?_) <;> first|(exfalso;omega)|(refine hQ_ _ _ ?_;clear hQ_ Q_))|(refine hQ_ _ _ ?_;clear hQ_ Q_)))
  | (refine zHx fun K_ hK_=>?_;simp (disch:=omega) only [zGz,zAz,zHw,↓reduceIte,reduceCtorEq,Nat.reduceEqDiff,Nat.reduceLT];refine hK_ _ ?_;clear hK_ K_)))
      (refine zKz _ _ rfl (ret2 (by decide) (by decide)) ?_;simp only [zAz,↓reduceIte,reduceCtorEq,Nat.reduceEqDiff];refine zKw rfl (by omega) ?_)
      exact ⟨rfl,rfl⟩
  · exact ⟨Nat.zero_le _,.inl rfl,by simp only [zAz,↓reduceIte,reduceCtorEq,Nat.reduceEqDiff],by simp only [zAz,↓reduceIte,reduceCtorEq,Nat.reduceEqDiff],by simp only [zAz,↓reduceIte,reduceCtorEq,Nat.reduceEqDiff];rfl,rfl,rfl⟩

end Go.Proofs.Ythaleckfgcgegaa
end

section
namespace Go.Proofs.Ythaleckfgcgegaa
open Go.Ev
set_option maxRecDepth 100000
set_option linter.unusedSimpArgs false
set_option linter.unusedVariables false
set_option maxHeartbeats 2000000
theorem works (h:H):(om Try.prog KK).call (.fn 14 []) h = .ok (.bool true) h:=by
  refine om_con (c:=cW) (r:=[]) ?_
  rfl
end Go.Proofs.Ythaleckfgcgegaa
end
