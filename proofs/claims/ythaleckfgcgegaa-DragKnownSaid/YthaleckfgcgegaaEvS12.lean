/-
  THE EVALUATOR'S SOUNDNESS, 12: the machine's steps.
-/
import Derived.Test.YthaleckfgcgegaaEvS11
import Derived.Calls
namespace Go.Ev

/-- A frame that runs. -/
def Fr (fn : FuncId) (rd : Option Nat) (tmps : Array Value) (defers : List Deferred) (todo : List Item) : Frame :=
  { fn, tmps, todo, defers, mode := .run, kind := .normal, roundOf := rd }

theorem Fr.eval (fn : FuncId) (rd : Option Nat) (tmps : Array Value) (defers : List Deferred) (todo : List Item) : (Fr fn rd tmps defers todo).eval = (⟨tmps, defers⟩ : Act).eval := by
  funext x; cases x <;> rfl

section
variable {P : Program} {fn : FuncId} {rd : Option Nat} {tm : Array Value} {df : List Deferred} {k : List Item} {cs : List Frame} {w : World}
theorem s_skip : Steps P (lone (Fr fn rd tm df (.code .skip :: k)) cs w) (lone (Fr fn rd tm df k) cs w) := .one (step_lone_go (by simp [stepG, stepG.exec, Fr]))
theorem s_label {l : Nat} : Steps P (lone (Fr fn rd tm df (.code (.label l) :: k)) cs w) (lone (Fr fn rd tm df k) cs w) := .one (step_lone_go (by simp [stepG, stepG.exec, Fr]))
theorem s_inBlock {id : Nat} : Steps P (lone (Fr fn rd tm df (.inBlock id :: k)) cs w) (lone (Fr fn rd tm df k) cs w) := .one (step_lone_go (by simp [stepG, stepG.exec, Fr]))
theorem s_inScope {c : Code} : Steps P (lone (Fr fn rd tm df (.inScope c :: k)) cs w) (lone (Fr fn rd tm df k) cs w) := .one (step_lone_go (by simp [stepG, stepG.exec, Fr]))
theorem s_seq {x y : Code} : Steps P (lone (Fr fn rd tm df (.code (.seq x y) :: k)) cs w) (lone (Fr fn rd tm df (.code x :: .code y :: k)) cs w) := .one (step_lone_go (by simp [stepG, stepG.exec, Fr]))
theorem s_cond {c : Operand} {x y : Code} {t : Bool} (h : (⟨tm, df⟩ : Act).eval c = .bool t) : Steps P (lone (Fr fn rd tm df (.code (.cond c x y) :: k)) cs w) (lone (Fr fn rd tm df (.code (bif t then x else y) :: k)) cs w) :=
  .one (step_lone_go (by
    have := congrFun (Fr.eval fn rd tm df (.code (.cond c x y) :: k)) c
    simp only [Fr] at this
    cases t <;> simp [stepG, stepG.exec, Fr, this, h]))
theorem s_block {id : Nat} {c : Code} : Steps P (lone (Fr fn rd tm df (.code (.block id c) :: k)) cs w) (lone (Fr fn rd tm df (.code c :: .inBlock id :: k)) cs w) := .one (step_lone_go (by simp [stepG, stepG.exec, Fr]))
theorem s_loop {c : Code} : Steps P (lone (Fr fn rd tm df (.code (.loop c) :: k)) cs w) (lone (Fr fn rd tm df (.code c :: .inLoop c :: k)) cs w) := .one (step_lone_go (by simp [stepG, stepG.exec, Fr]))
theorem s_inLoop {c : Code} : Steps P (lone (Fr fn rd tm df (.inLoop c :: k)) cs w) (lone (Fr fn rd tm df (.code c :: .inLoop c :: k)) cs w) := .one (step_lone_go (by simp [stepG, stepG.exec, Fr]))
theorem s_scope {c : Code} : Steps P (lone (Fr fn rd tm df (.code (.scope c) :: k)) cs w) (lone (Fr fn rd tm df (.code c :: .inScope c :: k)) cs w) := .one (step_lone_go (by simp [stepG, stepG.exec, Fr]))
theorem s_exit {id : Nat} {k' : List Item} (h : exitTo id k = some k') : Steps P (lone (Fr fn rd tm df (.code (.exit id) :: k)) cs w) (lone (Fr fn rd tm df k') cs w) := .one (step_lone_go (by simp [stepG, stepG.exec, Fr, h]))
theorem s_region {id : Nat} {ops : Array Oper} : Steps P (lone (Fr fn rd tm df (.code (.region id ops false) :: k)) cs w) (lone (Fr fn rd tm df (.inRegion ops (List.range ops.size) :: k)) cs w) := .one (step_lone_go (by simp [stepG, stepG.exec, Fr]))
theorem s_draw {id : Nat} {ops : Array Oper} : Steps P (lone (Fr fn rd tm df (.code (.region id ops true) :: k)) cs w)
    (lone (Fr fn rd tm df (.inRegion ops (Region.schedule (P.follows .mixedOrders) ops (w.tape w.drawn (.order fn id))) :: k)) cs { w with drawn := w.drawn + 1 }) :=
  .one (step_lone_go (by simp [stepG, stepG.exec, Fr, choose, Sem.run, Question.forced, Question.cut]))
theorem s_regionEnd {ops : Array Oper} : Steps P (lone (Fr fn rd tm df (.inRegion ops [] :: k)) cs w) (lone (Fr fn rd tm df k) cs w) := .one (step_lone_go (by simp [stepG, stepG.exec, Fr]))

/-- What an operation's value does. -/
def putA (tm : Array Value) (dst : Option Tmp) (v : Value) : Array Value := match dst with
  | some d => tm.setIfInBounds d v
  | none => tm

theorem finish_op {ops : Array Oper} {i : Nat} {rest : List Nat} {o : Oper} (ho : ops[i]? = some o) (v : Value) :
    (Fr fn rd tm df (.inRegion ops (i :: rest) :: k)).finish v = Fr fn rd (putA tm o.dst v) df (.inRegion ops rest :: k) := by
  cases h : o.dst <;> simp [Frame.finish, Fr, ho, putA, h]

theorem s_opSkip {ops : Array Oper} {i : Nat} {rest : List Nat} {o : Oper} (ho : ops[i]? = some o) (hw : Region.wanted o (yielded ops tm) = false) :
    Steps P (lone (Fr fn rd tm df (.inRegion ops (i :: rest) :: k)) cs w) (lone (Fr fn rd (putA tm o.dst undef) df (.inRegion ops rest :: k)) cs w) := by
  rw [← finish_op ho]
  exact .one (step_lone_go (by simp [stepG, stepG.exec, Fr, ho, hw]))

theorem stepG_oper {ops : Array Oper} {i : Nat} {rest : List Nat} {o : Oper} (ho : ops[i]? = some o) (hw : Region.wanted o (yielded ops tm) = true) (hd : ∀ c, o.op ≠ .defer c) :
    stepG P true { frame := Fr fn rd tm df (.inRegion ops (i :: rest) :: k), callers := cs, status := .running, dying := none } w =
      stepG.apply P true (Fr fn rd tm df (.inRegion ops (i :: rest) :: k)) cs none (execOp (⟨tm, df⟩ : Act).eval o) w := by
  have he := Fr.eval fn rd tm df (.inRegion ops (i :: rest) :: k)
  simp only [Fr] at he
  cases rd with
  | none => simp [stepG, stepG.exec, stepG.oper, Frame.oper?, Fr, ho, hw, he]
  | some l =>
    obtain ⟨dst, op, ty, pos, after, guard⟩ := o
    cases op <;> first
      | exact absurd rfl (hd _)
      | simp [stepG, stepG.exec, stepG.oper, Frame.oper?, Fr, ho, hw, he]

theorem s_opValue {ops : Array Oper} {i : Nat} {rest : List Nat} {o : Oper} (ho : ops[i]? = some o) (hw : Region.wanted o (yielded ops tm) = true) (hd : ∀ c, o.op ≠ .defer c) {v : Value} {w' : World}
    (hr : (execOp (⟨tm, df⟩ : Act).eval o).run P w = .ok (.value v) w') :
    Steps P (lone (Fr fn rd tm df (.inRegion ops (i :: rest) :: k)) cs w) (lone (Fr fn rd (putA tm o.dst v) df (.inRegion ops rest :: k)) cs w') := by
  rw [← finish_op ho]
  refine .one (step_lone_go ?_)
  rw [stepG_oper ho hw hd]
  simp [stepG.apply, hr]

theorem s_opUnit {ops : Array Oper} {i : Nat} {rest : List Nat} {o : Oper} (ho : ops[i]? = some o) (hw : Region.wanted o (yielded ops tm) = true) (hd : ∀ c, o.op ≠ .defer c) {w' : World}
    (hr : (execOp (⟨tm, df⟩ : Act).eval o).run P w = .ok .skip w') :
    Steps P (lone (Fr fn rd tm df (.inRegion ops (i :: rest) :: k)) cs w) (lone (Fr fn rd (putA tm o.dst undef) df (.inRegion ops rest :: k)) cs w') := by
  rw [← finish_op ho]
  refine .one (step_lone_go ?_)
  rw [stepG_oper ho hw hd]
  simp [stepG.apply, hr]

theorem s_opEnter {ops : Array Oper} {i : Nat} {rest : List Nat} {o : Oper} (ho : ops[i]? = some o) (hw : Region.wanted o (yielded ops tm) = true) (hd : ∀ c, o.op ≠ .defer c) {f : FuncId} {args : Array Value} {w' : World}
    (hr : (execOp (⟨tm, df⟩ : Act).eval o).run P w = .ok (.enter f args) w') :
    Steps P (lone (Fr fn rd tm df (.inRegion ops (i :: rest) :: k)) cs w) (lone (Frame.enter P f args .normal) (Fr fn rd tm df (.inRegion ops (i :: rest) :: k) :: cs) w') := by
  refine .one (step_lone_go ?_)
  rw [stepG_oper ho hw hd]
  simp [stepG.apply, hr, Fr]

theorem s_opRound {ops : Array Oper} {i : Nat} {rest : List Nat} {o : Oper} (ho : ops[i]? = some o) (hw : Region.wanted o (yielded ops tm) = true) (hd : ∀ c, o.op ≠ .defer c) {l : Nat} {f : FuncId} {tmps : Array Value} {asg body : Code} {w' : World}
    (hr : (execOp (⟨tm, df⟩ : Act).eval o).run P w = .ok (.round l f tmps asg body) w') :
    Steps P (lone (Fr fn rd tm df (.inRegion ops (i :: rest) :: k)) cs w) (lone (Fr f (some l) tmps [] [.code asg, .beginRound, .code body]) (Fr fn rd tm df (.inRegion ops (i :: rest) :: k) :: cs) w') := by
  refine .one (step_lone_go ?_)
  rw [stepG_oper ho hw hd]
  simp [stepG.apply, hr, Fr, Frame.round]

/-- The end of a frame. -/
theorem s_ret : Steps P (lone (Fr fn none tm df (.code .ret :: k)) cs w) (lone { Fr fn none tm df (.code .ret :: k) with mode := .returning } cs w) := .one (step_lone_go (by simp [stepG, stepG.exec, Fr]))
theorem s_end : Steps P (lone (Fr fn none tm df []) cs w) (lone { Fr fn none tm df [] with mode := .returning } cs w) := .one (step_lone_go (by simp [stepG, stepG.exec, Fr]))

/-- The end of a round. -/
theorem s_roundEnd {l : Nat} {jump : Option Code} {todo : List Item} (hj : (todo = [] ∧ jump = none) ∨ (todo = .code .ret :: k ∧ jump = some .ret) ∨ ∃ id, todo = .code (.exit id) :: k ∧ exitTo id k = none ∧ jump = some (.exit id))
    {v : Value} {w' : World} (hr : (Instr.endRound l jump).run P w = .ok v w') {c : Frame} : Steps P (lone (Fr fn (some l) tm [] todo) (c :: cs) w) (lone (c.finish v) cs w') := by
  refine .one (step_lone_go ?_)
  rcases hj with ⟨rfl, rfl⟩ | ⟨rfl, rfl⟩ | ⟨id, rfl, hx, rfl⟩
  · simp [stepG, stepG.exec, Fr, hr, doReturn]
  · simp [stepG, stepG.exec, Fr, hr, doReturn]
  · simp [stepG, stepG.exec, Fr, hx, hr, doReturn]

theorem s_beginRound {l : Nat} {w' : World} (hr : (Instr.beginRound l).run P w = .ok () w') : Steps P (lone (Fr fn (some l) tm df (.beginRound :: k)) cs w) (lone (Fr fn (some l) tm df k) cs w') := by
  refine .one (step_lone_go ?_)
  simp [stepG, stepG.exec, stepG.apply, Fr, hr, Frame.finish]

theorem s_rangeFn {f : Operand} {params : Array Tmp} {asg body : Code} {l : Nat} {mark : List Deferred} {w' : World} (hr : (Instr.enterLoop fn tm params asg body rd).run P w = .ok (l, mark) w')
    {g : FuncId} {args : Array Value} {w2 : World} (hc : (do let d ← resolve (⟨tm, df⟩ : Act).eval { callee := .value f, args := #[.const (.func (.yield l) #[] #[])], argTypes := #[] } 0; invoke d.target d.args : Sem Next).run P w' = .ok (.enter g args) w2) :
    Steps P (lone (Fr fn rd tm df (.code (.rangeFunc f params asg body) :: k)) cs w) (lone (Frame.enter P g args .normal) (Fr fn rd tm (mark ++ df) (.inRangeFunc l :: k) :: cs) w2) := by
  refine .one (step_lone_go ?_)
  have he : (Fr fn rd tm (mark ++ df) (.inRangeFunc l :: k)).eval = (⟨tm, df⟩ : Act).eval := by funext x; cases x <;> rfl
  simp only [Fr] at he
  simp only [Sem.run_bind] at hc
  simp [stepG, stepG.exec, stepG.apply, Fr, hr, he, hc]

theorem s_rangeYld {f : Operand} {params : Array Tmp} {asg body : Code} {l : Nat} {mark : List Deferred} {w' : World} (hr : (Instr.enterLoop fn tm params asg body rd).run P w = .ok (l, mark) w')
    {m : Nat} {g : FuncId} {tmps : Array Value} {a2 b2 : Code} {w2 : World} (hc : (do let d ← resolve (⟨tm, df⟩ : Act).eval { callee := .value f, args := #[.const (.func (.yield l) #[] #[])], argTypes := #[] } 0; invoke d.target d.args : Sem Next).run P w' = .ok (.round m g tmps a2 b2) w2) :
    Steps P (lone (Fr fn rd tm df (.code (.rangeFunc f params asg body) :: k)) cs w) (lone (Fr g (some m) tmps [] [.code a2, .beginRound, .code b2]) (Fr fn rd tm (mark ++ df) (.inRangeFunc l :: k) :: cs) w2) := by
  refine .one (step_lone_go ?_)
  have he : (Fr fn rd tm (mark ++ df) (.inRangeFunc l :: k)).eval = (⟨tm, df⟩ : Act).eval := by funext x; cases x <;> rfl
  simp only [Fr] at he
  simp only [Sem.run_bind] at hc
  simp [stepG, stepG.exec, stepG.apply, Fr, Frame.round, hr, he, hc]

theorem finish_range {l : Nat} (v : Value) : (Fr fn rd tm df (.inRangeFunc l :: k)).finish v = Fr fn rd tm df (.endRangeFunc l :: k) := rfl

theorem s_endLoop {l : Nat} {jump : Option Code} {w' : World} (hr : (Instr.endLoop l).run P w = .ok jump w') :
    Steps P (lone (Fr fn rd tm df (.endRangeFunc l :: k)) cs w) (lone (Fr fn rd tm df ((jump.map Item.code).toList ++ k)) cs w') := by
  refine .one (step_lone_go ?_)
  simp [stepG, stepG.exec, Fr, hr]

/-- A frame that returns takes the deferred calls of its loops (there are none). -/
theorem s_take {b : Nat} {args : Array Value} {ds : List Deferred} {todo : List Item} {w' : World} (hr : (Instr.takeDeferred b).run P w = .ok [] w') :
    Steps P (lone { Fr fn none tm ({ target := .collected b, args := args } :: ds) todo with mode := .returning } cs w) (lone { Fr fn none tm ds todo with mode := .returning } cs w') := by
  refine .one (step_lone_go ?_)
  simp [stepG, unwind, Fr, hr]
end

end Go.Ev
