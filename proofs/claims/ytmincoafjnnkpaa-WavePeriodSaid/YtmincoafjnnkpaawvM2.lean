import Derived.Test.YtmincoafjnnkpaawvM1
import Derived.Calls
import Derived.Orders
import Derived.RowKit3
set_option linter.all false
section
namespace Go.Ev

inductive SK:List MapEntry→List MapEntry→Prop
  | nil:SK [] []
  | cons (e e':MapEntry) (es es':List MapEntry):e.key=e'.key→SK es es'→SK (e :: es) (e' :: es')

inductive FR (es':List MapEntry) (i:Nat):Option (Nat × Value)→Option (Nat × Value)→Prop
  | none:FR es' i none none
  | some (j:Nat) (u:Value) (e:MapEntry):i≤j→es'[j - i]? = some e→FR es' i (some (j,u)) (some (j,e.val))

theorem FR.step {e:MapEntry} {es:List MapEntry} {i:Nat} {a b:Option (Nat × Value)} (h:FR es (i+1) a b):FR (e :: es) i a b:=by
  cases h with
  | none=>exact .none
  | some j u x hj hx=>
    refine .some j u x (by omega) ?_
    rw [show j - i=(j - (i+1))+1 from by omega,List.getElem?_cons_succ]
    exact hx

theorem findNow_same (kind:TypeDesc) (k:Value) {es es':List MapEntry} (h:SK es es') : ∀ (i:Nat),
    (Instr.findNow kind k es i=none∧Instr.findNow kind k es' i=none) ∨ ∃ a b,Instr.findNow kind k es i=some a∧Instr.findNow kind k es' i=some b∧FR es' i a b:=by
  induction h with
  | nil=>intro i;exact .inr ⟨none,none,rfl,rfl,.none⟩
  | cons e e' es es' hk _ ih=>
    intro i
    unfold Instr.findNow
    rw [hk]
    cases Instr.sameNow kind k e'.key with
    | none=>exact .inl ⟨rfl,rfl⟩
    | some b=>cases b with
      | true=>exact .inr ⟨_,_,rfl,rfl,.some i e.val e' (Nat.le_refl _) (by simp)⟩
      | false=>
        rcases ih (i+1) with h|⟨a,b,h1,h2,h3⟩
        · exact .inl h
        · exact .inr ⟨a,b,h1,h2,h3.step⟩

theorem xXv {α β : Type} {P:Program} {s:Sem α} {f : α → Sem β} {b : β} (h:pureRun P (s >>= f)=some b) : ∃ a,pureRun P s=some a∧pureRun P (f a)=some b:=by
  have h':pureRun P (s.bind f)=some b:=h
  induction s with
  | pure a=>exact ⟨a,rfl,h'⟩
  | program k ih=>exact ih P h' h'
  | _=>cases h'

theorem findAsking_same {P:Program} (w:World) (kt:TypeId) (k:Value) {es es':List MapEntry} (h:SK es es') : ∀ (i:Nat) {a:Option (Nat × Value)},pureRun P (Instr.findAsking kt k es i)=some a →
    ∃ b,(Instr.findAsking kt k es' i).run P w = .ok b w∧FR es' i a b:=by
  induction h with
  | nil=>intro i a ha;cases ha;exact ⟨none,rfl,.none⟩
  | cons e e' es es' hk _ ih=>
    intro i a ha
    unfold Instr.findAsking at ha ⊢
    obtain ⟨q,h1,h2⟩:=xXv ha
    rw [hk] at h1
    have h1':=xEw h1 w
    cases q with
    | true=>
      cases h2
      exact ⟨some (i,e'.val),(zKz h1').trans rfl,.some i e.val e' (Nat.le_refl _) (by simp)⟩
    | false=>
      obtain ⟨b,g1,g2⟩:=ih (i+1) h2
      exact ⟨b,(zKz h1').trans g1,g2.step⟩

theorem findKey_same {P:Program} (w:World) (kt:TypeId) (k:Value) {es es':List MapEntry} (h:SK es es') {a:Option (Nat × Value)} (ha:pureRun P (Instr.findKey kt k es)=some a) :
    ∃ b,(Instr.findKey kt k es').run P w = .ok b w∧FR es' 0 a b:=by
  unfold Instr.findKey at ha ⊢
  obtain ⟨d,h1,h2⟩:=xXv ha
  have h1':=xEw h1 w
  rcases findNow_same d k h 0 with ⟨q1,q2⟩|⟨x,y,q1,q2,q3⟩
  · rw [q1] at h2
    obtain ⟨b,g1,g2⟩:=findAsking_same w kt k h 0 h2
    refine ⟨b,(zKz h1').trans ?_,g2⟩
    rw [q2]
    exact g1
  · rw [q1] at h2
    cases h2
    refine ⟨y,(zKz h1').trans ?_,q3⟩
    rw [q2]
    rfl

theorem asEntries_sk {ρ : R} {es:List (Value × AV × Nat)} {es':List MapEntry} (h:ER ρ es es'):SK (asEntries es) es':=by
  induction h with
  | nil=>exact .nil
  | cons k v born v' es es' _ _ ih=>exact .cons _ _ _ _ rfl ih

theorem ER.get {ρ : R} {es:List (Value × AV × Nat)} {es':List MapEntry} (h:ER ρ es es') : ∀ {i:Nat} {x:Value × AV × Nat},es[i]? = some x → ∃ e,es'[i]? = some e∧e.key=x.1∧VR ρ x.2.1 e.val∧e.born=x.2.2:=by
  induction h with
  | nil=>intro i x hx;simp at hx
  | cons k v born v' es es' hv _ ih=>
    intro i x hx
    cases i with
    | zero=>simp at hx;subst hx;exact ⟨{ key:=k,val:=v',born:=born },by simp,rfl,hv,rfl⟩
    | succ i=>simp at hx;obtain ⟨e,h1,h2⟩:=ih hx;exact ⟨e,by simpa using h1,h2⟩

theorem findE_run {P:Program} {ρ : R} (w:World) {empty:Bool} {kt:TypeId} {k:Value} {es:List (Value × AV × Nat)} {es':Array MapEntry} (he:ER ρ es es'.toList) {r:Option Nat} (h:findE P empty kt k es=some r) :
    (Instr.checkKey empty 10000 kt k).run P w = .ok () w ∧ ∃ b,(Instr.findKey kt k es'.toList).run P w = .ok b w ∧
      ((r=none∧b=none) ∨ ∃ i e,r=some i∧b=some (i,e.val)∧es'[i]? = some e):=by
  unfold findE at h
  cases h1:pureRun P (Instr.checkKey empty 10000 kt k) with
  | none=>rw [h1] at h;cases h
  | some u=>
    rw [h1] at h
    dsimp only at h
    cases h2:pureRun P (Instr.findKey kt k (asEntries es)) with
    | none=>rw [h2] at h;cases h
    | some a=>
      rw [h2] at h
      obtain ⟨b,g1,g2⟩:=findKey_same w kt k (asEntries_sk he) h2
      refine ⟨xEw h1 w,b,g1,?_⟩
      cases g2 with
      | none=>cases h;exact .inl ⟨rfl,rfl⟩
      | some j u e hj hx=>cases h;exact .inr ⟨j,e,rfl,rfl,by simpa using hx⟩

theorem mapVal_vr {ρ : R} {ok b:Bool} {v:AV} {v':Value} (hv:VR ρ v v'):VR ρ (mapVal ok v b) (if ok=true then .tuple #[v',.bool b] else v'):=by
  cases ok with
  | true=>exact .tup _ _ (.cons _ _ _ _ hv (.cons _ _ _ _ (.bool b) .nil))
  | false=>exact hv

theorem xZy {P:Program} {ρ : R} (w:World) {kt et:TypeId} {k:Value} {ok:Bool} {es:List (Value × AV × Nat)} {es':Array MapEntry} (he:ER ρ es es'.toList) {v:AV} (h:lookupIn P kt et k ok es=some v) :
    (Instr.checkKey es'.isEmpty 10000 kt k).run P w = .ok () w ∧ ∃ b,(Instr.findKey kt k es'.toList).run P w = .ok b w ∧
      ((b=none ∧ ∃ z,(zeroValue et).run P w = .ok z w∧VR ρ v (if ok=true then .tuple #[z,.bool false] else z)) ∨ ∃ i u,b=some (i,u)∧VR ρ v (if ok=true then .tuple #[u,.bool true] else u)):=by
  unfold lookupIn at h
  have hem:es.isEmpty=es'.isEmpty:=by
    have:=he.length
    cases es with
    | nil=>
      have h0:es'.size=0:=by simpa using this.symm
      simp [Array.eq_empty_of_size_eq_zero h0]
    | cons a l=>
      simp at this
      have:es'.size≠0:=by omega
      simp;exact fun e=>this (by simp [e])
  cases hf:findE P es.isEmpty kt k es with
  | none=>rw [hf] at h;cases h
  | some r=>
    obtain ⟨g1,b,g2,g3⟩:=findE_run (P:=P) w he hf
    rw [hf] at h
    refine ⟨hem ▸ g1,b,g2,?_⟩
    rcases g3 with ⟨rfl,rfl⟩|⟨i,e,rfl,rfl,hi⟩
    · dsimp only at h
      cases hz:zeroE P et with
      | none=>rw [hz] at h;cases h
      | some z=>
        rw [hz] at h
        cases h
        obtain ⟨z',hz1,hz2⟩:=yWv (ρ:=ρ) w hz
        exact .inl ⟨rfl,z',hz1,mapVal_vr hz2⟩
    · dsimp only at h
      cases hx:es[i]? with
      | none=>rw [hx] at h;cases h
      | some x=>
        rw [hx] at h
        obtain ⟨x1,x2,x3⟩:=x
        cases h
        obtain ⟨e2,q1,_,q3,_⟩:=he.get hx
        have:e2=e:=by
          have:es'.toList[i]? = some e:=by simpa using hi
          rw [q1] at this;cases this;rfl
        subst this
        exact .inr ⟨i,e2.val,rfl,mapVal_vr q3⟩

theorem lookupE_run {P:Program} {ρ : R} {h:H} {w:World} (hr:HR ρ h w) {t:TypeId} {x k v:AV} {x' k':Value} {ok:Bool} (hx:VR ρ x x') (hk:VR ρ k k') (hl:lookupE P t x k ok h=some v) :
    Pur P (Instr.lookup t x' k' ok) ρ w v:=by
  unfold lookupE at hl
  cases hu:P.underlying t with
  | none=>rw [hu] at hl;cases hl
  | some d=>
    rw [hu] at hl
    cases d with
    | map kt et=>
      cases hc:conc0 k with
      | none=>rw [hc] at hl;cases hl
      | some kv=>
        rw [hc] at hl
        obtain rfl:=xQv hc hk
        dsimp only at hl
        cases hx with
        | nilm=>
          dsimp only at hl
          obtain ⟨g1,b,g2,g3⟩:=xZy (P:=P) (ρ:=ρ) w (es':=#[]) .nil hl
          rcases g3 with ⟨rfl,z,hz1,hz2⟩|⟨i,u,rfl,hu2⟩
          · refine ⟨_,?_,hz2⟩
            refine (zKz (run_underlying hu w)).trans ?_
            refine (zKz (a:=#[]) (w1:=w) rfl).trans ?_
            refine (zKz g1).trans ?_
            refine (zKz g2).trans ?_
            refine (zKz hz1).trans ?_
            rfl
          · refine ⟨_,?_,hu2⟩
            refine (zKz (run_underlying hu w)).trans ?_
            refine (zKz (a:=#[]) (w1:=w) rfl).trans ?_
            refine (zKz g1).trans ?_
            refine (zKz g2).trans ?_
            rfl
        | map id b y hy hyp=>
          dsimp only at hl
          cases hg:getObj id h with
          | none=>rw [hg] at hl;cases hl
          | some o=>
            rw [hg] at hl
            cases o with
            | map es clock=>
              dsimp only at hl
              obtain ⟨n,born,o',e1,e2,e3,e4⟩:=hr.at hy hyp hg (fun e=>by cases e)
              cases e4 with
              | map _ _ es' he=>
                have hgo:(Go.getObj b).run P w = .ok (.map es' clock) w:=by simp [Go.getObj,Sem.run,e3]
                obtain ⟨g1,r,g2,g3⟩:=xZy (P:=P) w he hl
                rcases g3 with ⟨rfl,z,hz1,hz2⟩|⟨i,u,rfl,hu2⟩
                · refine ⟨_,?_,hz2⟩
                  refine (zKz (run_underlying hu w)).trans ?_
                  refine (zKz hgo).trans ?_
                  refine (zKz g1).trans ?_
                  refine (zKz g2).trans ?_
                  refine (zKz hz1).trans ?_
                  rfl
                · refine ⟨_,?_,hu2⟩
                  refine (zKz (run_underlying hu w)).trans ?_
                  refine (zKz hgo).trans ?_
                  refine (zKz g1).trans ?_
                  refine (zKz g2).trans ?_
                  rfl
            | _=>cases hl
        | _=>cases hl
    | _=>cases hl

theorem ER.set {ρ : R} {k:Value} {v:AV} {v':Value} (hv:VR ρ v v') {es:List (Value × AV × Nat)} {es':List MapEntry} (h:ER ρ es es') : ∀ (i:Nat),
    ER ρ (setAt es i k v) (es'.modify i fun e=>{ e with key:=k,val:=v' }):=by
  induction h with
  | nil=>intro i;cases i <;> exact .nil
  | cons k0 v0 born v0' es es' hv0 h0 ih=>
    intro i
    cases i with
    | zero=>simp only [setAt,List.modify_zero_cons];exact .cons k v born v' es es' hv h0
    | succ i=>simp only [setAt,List.modify_succ_cons];exact .cons k0 v0 born v0' _ _ hv0 (ih i)

theorem ER.snoc {ρ : R} {k:Value} {v:AV} {v':Value} {born:Nat} (hv:VR ρ v v') {es:List (Value × AV × Nat)} {es':List MapEntry} (h:ER ρ es es') :
    ER ρ (es++[(k,v,born)]) (es'++[{ key:=k,val:=v',born:=born }]):=by
  induction h with
  | nil=>exact .cons k v born v' [] [] hv .nil
  | cons k0 v0 b0 v0' es es' hv0 _ ih=>exact .cons k0 v0 b0 v0' _ _ hv0 ih

theorem updateE_run {P:Program} {ρ : R} {h h':H} {w:World} (hr:HR ρ h w) {t:TypeId} {m k v:AV} {m' k' v':Value} (hm:VR ρ m m') (hk:VR ρ k k') (hv:VR ρ v v') (hu0:updateE P t m k v h=some h') :
    GoodU P (Instr.mapUpdate t m' k' v') ρ h w h':=by
  unfold updateE at hu0
  cases hu:P.underlying t with
  | none=>rw [hu] at hu0;cases hu0
  | some d=>
    rw [hu] at hu0
    cases d with
    | map kt et=>
      cases hm with
      | map id b y hy hyp=>
        cases hc:conc0 k with
        | none=>rw [hc] at hu0;cases hu0
        | some kv=>
          rw [hc] at hu0
          obtain rfl:=xQv hc hk
          dsimp only at hu0
          cases hg:getObj id h with
          | none=>rw [hg] at hu0;cases hu0
          | some o=>
            rw [hg] at hu0
            cases o with
            | map es clock=>
              dsimp only at hu0
              obtain ⟨n,born,o',e1,e2,e3,e4⟩:=hr.at hy hyp hg (fun e=>by cases e)
              cases e4 with
              | map _ _ es' he=>
                have hlt:=(Array.getElem?_eq_some_iff.1 e3).1
                have hgo:(Go.getObj b).run P w = .ok (.map es' clock) w:=by simp [Go.getObj,Sem.run,e3]
                have hso : ∀ o2,(Go.setObj b o2).run P w = .ok () { w with heap:=w.heap.setIfInBounds b o2 }:=fun o2=>by simp [Go.setObj,Sem.run,e3]
                have fin : ∀ (es2:List (Value × AV × Nat)) (es2':Array MapEntry) (clock2:Nat) (h2:H),ER ρ es2 es2'.toList→Ev.setObj id (.map es2 clock2) h=some h2 →
                    HR ρ h2 { w with heap:=w.heap.setIfInBounds b (.map es2' clock2) } ∧ Ext ρ h w ρ h2 { w with heap:=w.heap.setIfInBounds b (.map es2' clock2) }:=by
                  intro es2 es2' clock2 h2 hes hs
                  refine hr.setObj (w':={ w with heap:=w.heap.setIfInBounds b (.map es2' clock2) }) hs (hy.trans (by rw [e1])) e2 (fun m e=>by cases e) (OR.map es2 clock2 es2' hes) (by simp) (by simp [hlt]) (fun j hj=>by simp [Array.getElem?_setIfInBounds_ne (Ne.symm hj)]) rfl rfl (fun a=>?_)
                  by_cases ha:a.block=b
                  · have e3':w.heap[b] = .map es' clock:=(Array.getElem?_eq_some_iff.1 e3).2
                    simp [World.frozen?,ha,hlt,e3']
                  · simp [World.frozen?,Array.getElem?_setIfInBounds_ne (Ne.symm ha)]
                cases hup:updateIn P kt k' v es clock with
                | none=>rw [hup] at hu0;cases hu0
                | some o2=>
                  rw [hup] at hu0
                  unfold updateIn at hup
                  cases hf:findE P false kt k' es with
                  | none=>rw [hf] at hup;cases hup
                  | some r=>
                    obtain ⟨g1,bb,g2,g3⟩:=findE_run (P:=P) w he hf
                    rw [hf] at hup
                    rcases g3 with ⟨rfl,rfl⟩|⟨i,e,rfl,rfl,hi⟩
                    · cases hup
                      obtain ⟨a1,a2⟩:=fin (es++[(k',v,clock)]) (es'.push { key:=k',val:=v',born:=clock }) (Nat.succ clock) h' (by rw [Array.toList_push];exact he.snoc hv) hu0
                      refine ⟨_,?_,a1,a2⟩
                      refine (zKz (run_underlying hu w)).trans ?_
                      refine (zKz hgo).trans ?_
                      refine (zKz g1).trans ?_
                      refine (zKz g2).trans ?_
                      exact hso _
                    · dsimp only at hup
                      cases hx:es[i]? with
                      | none=>rw [hx] at hup;cases hup
                      | some x=>
                        rw [hx] at hup
                        obtain ⟨x1,x2,x3⟩:=x
                        dsimp only at hup
                        cases hsb:Instr.sameBits 10000 x1 k' with
                        | false=>rw [hsb] at hup;cases hup
                        | true=>
                          rw [hsb] at hup
                          cases hup
                          obtain ⟨e2',q1,q2,_,_⟩:=he.get hx
                          have hee:e2'=e:=by
                            have:es'.toList[i]? = some e:=by simpa using hi
                            rw [q1] at this;cases this;rfl
                          subst hee
                          obtain ⟨a1,a2⟩:=fin (setAt es i k' v) (es'.modify i fun e=>{ e with key:=k',val:=v' }) clock h' (by rw [Array.toList_modify];exact he.set hv i) hu0
                          have hks:(Instr.keyThatStays (((es'[i]?).map (·.key)).getD k') k').run P w = .ok k' w:=by
                            rw [hi]
                            show (Instr.keyThatStays e2'.key k').run P w=_
                            unfold Instr.keyThatStays
                            dsimp only at q2
                            rw [q2,if_pos hsb]
                            rfl
                          refine ⟨_,?_,a1,a2⟩
                          refine (zKz (run_underlying hu w)).trans ?_
                          refine (zKz hgo).trans ?_
                          refine (zKz g1).trans ?_
                          refine (zKz g2).trans ?_
                          refine (zKz hks).trans ?_
                          exact hso _
            | _=>cases hu0
      | _=>cases hu0
    | _=>cases hu0

theorem done_some0 {o:Option H} {h':H} {v:AV} (e:RV.done o = .ok v h'):o=some h'∧v = .tup []:=by
  cases o with
  | none=>cases e
  | some h2=>cases e;exact ⟨rfl,rfl⟩

theorem ER.erase {ρ : R} {es:List (Value × AV × Nat)} {es':List MapEntry} (h:ER ρ es es') : ∀ (i:Nat),ER ρ (eraseAt es i) (es'.eraseIdx i):=by
  induction h with
  | nil=>intro i;cases i <;> exact .nil
  | cons k0 v0 born v0' es es' hv0 h0 ih=>
    intro i
    cases i with
    | zero=>simpa only [eraseAt,List.eraseIdx_cons_zero] using h0
    | succ i=>simp only [eraseAt,List.eraseIdx_cons_succ];exact .cons k0 v0 born v0' _ _ hv0 (ih i)

theorem deleteE_run {P:Program} {ρ : R} {h h':H} {w:World} (hr:HR ρ h w) {t u ty:TypeId} {m k v:AV} {m' k':Value} (hm:VR ρ m m') (hk:VR ρ k k') (hu0:deleteE P t m k h = .ok v h') :
    Good P (Builtin.delete_ #[t,u] ty #[m',k']) ρ h w v h':=by
  unfold deleteE at hu0
  have unit:VR ρ (.tup []) (.tuple #[]):=.tup [] #[] .nil
  cases hu:P.underlying t with
  | none=>rw [hu] at hu0;cases hu0
  | some d=>
    rw [hu] at hu0
    cases d with
    | map kt et=>
      cases hm with
      | map id b y hy hyp=>
        cases hc:conc0 k with
        | none=>rw [hc] at hu0;cases hu0
        | some kv=>
          rw [hc] at hu0
          obtain rfl:=xQv hc hk
          dsimp only at hu0
          cases hg:getObj id h with
          | none=>rw [hg] at hu0;cases hu0
          | some o=>
            rw [hg] at hu0
            cases o with
            | map es clock=>
              dsimp only at hu0
              obtain ⟨n,born,o',e1,e2,e3,e4⟩:=hr.at hy hyp hg (fun e=>by cases e)
              cases e4 with
              | map _ _ es' he=>
                have hlt:=(Array.getElem?_eq_some_iff.1 e3).1
                have hem:es.isEmpty=es'.isEmpty:=by
                  have:=he.length
                  cases es with
                  | nil=>
                    have h0:es'.size=0:=by simpa using this.symm
                    simp [Array.eq_empty_of_size_eq_zero h0]
                  | cons a l=>
                    simp at this
                    have:es'.size≠0:=by omega
                    simp;exact fun e=>this (by simp [e])
                have hgo:(Go.getObj b).run P w = .ok (.map es' clock) w:=by simp [Go.getObj,Sem.run,e3]
                have hso : ∀ o2,(Go.setObj b o2).run P w = .ok () { w with heap:=w.heap.setIfInBounds b o2 }:=fun o2=>by simp [Go.setObj,Sem.run,e3]
                have fin : ∀ (es2:List (Value × AV × Nat)) (es2':Array MapEntry) (clock2:Nat) (h2:H),ER ρ es2 es2'.toList→Ev.setObj id (.map es2 clock2) h=some h2 →
                    HR ρ h2 { w with heap:=w.heap.setIfInBounds b (.map es2' clock2) } ∧ Ext ρ h w ρ h2 { w with heap:=w.heap.setIfInBounds b (.map es2' clock2) }:=by
                  intro es2 es2' clock2 h2 hes hs
                  refine hr.setObj (w':={ w with heap:=w.heap.setIfInBounds b (.map es2' clock2) }) hs (hy.trans (by rw [e1])) e2 (fun m e=>by cases e) (OR.map es2 clock2 es2' hes) (by simp) (by simp [hlt]) (fun j hj=>by simp [Array.getElem?_setIfInBounds_ne (Ne.symm hj)]) rfl rfl (fun a=>?_)
                  by_cases ha:a.block=b
                  · have e3':w.heap[b] = .map es' clock:=(Array.getElem?_eq_some_iff.1 e3).2
                    simp [World.frozen?,ha,hlt,e3']
                  · simp [World.frozen?,Array.getElem?_setIfInBounds_ne (Ne.symm ha)]
                cases hup:deleteIn P kt k' es clock with
                | none=>rw [hup] at hu0;cases hu0
                | some o2=>
                  rw [hup] at hu0
                  unfold deleteIn at hup
                  cases hf:findE P es.isEmpty kt k' es with
                  | none=>rw [hf] at hup;cases hup
                  | some r=>
                    obtain ⟨g1,bb,g2,g3⟩:=findE_run (P:=P) w he hf
                    rw [hem] at g1
                    rw [hf] at hup
                    rcases g3 with ⟨rfl,rfl⟩|⟨i,e,rfl,rfl,hi⟩
                    · cases hup
                      obtain ⟨hs,rfl⟩:=done_some0 hu0
                      obtain ⟨a1,a2⟩:=fin es es' clock h' he hs
                      refine ⟨ρ,.tuple #[],_,?_,unit,a1,a2⟩
                      refine (zKz (run_underlying hu w)).trans ?_
                      refine (zKz hgo).trans ?_
                      refine (zKz g1).trans ?_
                      refine (zKz g2).trans ?_
                      exact (zKz (hso _)).trans rfl
                    · cases hup
                      obtain ⟨hs,rfl⟩:=done_some0 hu0
                      obtain ⟨a1,a2⟩:=fin (eraseAt es i) (es'.eraseIdxIfInBounds i) clock h' (by
                        have hl:i<es'.size:=(Array.getElem?_eq_some_iff.1 hi).1
                        rw [Array.eraseIdxIfInBounds,dif_pos hl,Array.toList_eraseIdx];exact he.erase i) hs
                      refine ⟨ρ,.tuple #[],_,?_,unit,a1,a2⟩
                      refine (zKz (run_underlying hu w)).trans ?_
                      refine (zKz hgo).trans ?_
                      refine (zKz g1).trans ?_
                      refine (zKz g2).trans ?_
                      exact (zKz (hso _)).trans rfl
            | _=>cases hu0
      | _=>cases hu0
    | _=>cases hu0

end Go.Ev
end

section
namespace Go.Ev

def Fr (fn:FuncId) (rd:Option Nat) (tmps:Array Value) (defers:List Deferred) (todo:List Item):Frame:=
  { fn,tmps,todo,defers,mode:=.run,kind:=.normal,roundOf:=rd }

theorem Fr.eval (fn:FuncId) (rd:Option Nat) (tmps:Array Value) (defers:List Deferred) (todo:List Item):(Fr fn rd tmps defers todo).eval=(⟨tmps,defers⟩:Act).eval:=by
  funext x;cases x <;> rfl

section
variable {P:Program} {fn:FuncId} {rd:Option Nat} {tm:Array Value} {df:List Deferred} {k:List Item} {cs:List Frame} {w:World}
theorem s_skip :Steps P (lone (Fr fn rd tm df (.code .skip :: k)) cs w) (lone (Fr fn rd tm df k) cs w):=.one (step_lone_go (by simp [stepG,stepG.exec,Fr]))
theorem s_label {l:Nat} : Steps P (lone (Fr fn rd tm df (.code (.label l) :: k)) cs w) (lone (Fr fn rd tm df k) cs w):=.one (step_lone_go (by simp [stepG,stepG.exec,Fr]))
theorem s_inBlock {id:Nat} : Steps P (lone (Fr fn rd tm df (.inBlock id :: k)) cs w) (lone (Fr fn rd tm df k) cs w):=.one (step_lone_go (by simp [stepG,stepG.exec,Fr]))
theorem s_inScope {c:Code} : Steps P (lone (Fr fn rd tm df (.inScope c :: k)) cs w) (lone (Fr fn rd tm df k) cs w):=.one (step_lone_go (by simp [stepG,stepG.exec,Fr]))
theorem s_seq {x y:Code} : Steps P (lone (Fr fn rd tm df (.code (.seq x y) :: k)) cs w) (lone (Fr fn rd tm df (.code x :: .code y :: k)) cs w):=.one (step_lone_go (by simp [stepG,stepG.exec,Fr]))
theorem s_cond {c:Operand} {x y:Code} {t:Bool} (h:(⟨tm,df⟩:Act).eval c = .bool t):Steps P (lone (Fr fn rd tm df (.code (.cond c x y) :: k)) cs w) (lone (Fr fn rd tm df (.code (bif t then x else y) :: k)) cs w):=
  .one (step_lone_go (by
    have:=congrFun (Fr.eval fn rd tm df (.code (.cond c x y) :: k)) c
    simp only [Fr] at this
    cases t <;> simp [stepG,stepG.exec,Fr,this,h]))
theorem s_block {id:Nat} {c:Code} : Steps P (lone (Fr fn rd tm df (.code (.block id c) :: k)) cs w) (lone (Fr fn rd tm df (.code c :: .inBlock id :: k)) cs w):=.one (step_lone_go (by simp [stepG,stepG.exec,Fr]))
theorem s_loop {c:Code} : Steps P (lone (Fr fn rd tm df (.code (.loop c) :: k)) cs w) (lone (Fr fn rd tm df (.code c :: .inLoop c :: k)) cs w):=.one (step_lone_go (by simp [stepG,stepG.exec,Fr]))
theorem s_inLoop {c:Code} : Steps P (lone (Fr fn rd tm df (.inLoop c :: k)) cs w) (lone (Fr fn rd tm df (.code c :: .inLoop c :: k)) cs w):=.one (step_lone_go (by simp [stepG,stepG.exec,Fr]))
theorem s_scope {c:Code} : Steps P (lone (Fr fn rd tm df (.code (.scope c) :: k)) cs w) (lone (Fr fn rd tm df (.code c :: .inScope c :: k)) cs w):=.one (step_lone_go (by simp [stepG,stepG.exec,Fr]))
theorem s_exit {id:Nat} {k':List Item} (h:exitTo id k=some k'):Steps P (lone (Fr fn rd tm df (.code (.exit id) :: k)) cs w) (lone (Fr fn rd tm df k') cs w):=.one (step_lone_go (by simp [stepG,stepG.exec,Fr,h]))
theorem s_region {id:Nat} {ops:Array Oper} : Steps P (lone (Fr fn rd tm df (.code (.region id ops false) :: k)) cs w) (lone (Fr fn rd tm df (.inRegion ops (List.range ops.size) :: k)) cs w):=.one (step_lone_go (by simp [stepG,stepG.exec,Fr]))
theorem s_draw {id:Nat} {ops:Array Oper} : Steps P (lone (Fr fn rd tm df (.code (.region id ops true) :: k)) cs w)
    (lone (Fr fn rd tm df (.inRegion ops (Region.schedule (P.follows .mixedOrders) ops (w.tape w.drawn (.order fn id))) :: k)) cs { w with drawn:=w.drawn+1 }):=
  .one (step_lone_go (by simp [stepG,stepG.exec,Fr,choose,Sem.run,Question.forced,Question.cut]))
theorem s_regionEnd {ops:Array Oper} : Steps P (lone (Fr fn rd tm df (.inRegion ops [] :: k)) cs w) (lone (Fr fn rd tm df k) cs w):=.one (step_lone_go (by simp [stepG,stepG.exec,Fr]))

def putA (tm:Array Value) (dst:Option Tmp) (v:Value):Array Value:=match dst with
  | some d=>tm.setIfInBounds d v
  | none=>tm

theorem xHz {ops:Array Oper} {i:Nat} {rest:List Nat} {o:Oper} (ho:ops[i]? = some o) (v:Value) :
    (Fr fn rd tm df (.inRegion ops (i :: rest) :: k)).finish v=Fr fn rd (putA tm o.dst v) df (.inRegion ops rest :: k):=by
  cases h:o.dst <;> simp [Frame.finish,Fr,ho,putA,h]

theorem s_opSkip {ops:Array Oper} {i:Nat} {rest:List Nat} {o:Oper} (ho:ops[i]? = some o) (hw:Region.wanted o (yielded ops tm)=false) :
    Steps P (lone (Fr fn rd tm df (.inRegion ops (i :: rest) :: k)) cs w) (lone (Fr fn rd (putA tm o.dst undef) df (.inRegion ops rest :: k)) cs w):=by
  rw [← xHz ho]
  exact .one (step_lone_go (by simp [stepG,stepG.exec,Fr,ho,hw]))

theorem xIw {ops:Array Oper} {i:Nat} {rest:List Nat} {o:Oper} (ho:ops[i]? = some o) (hw:Region.wanted o (yielded ops tm)=true) (hd : ∀ c,o.op ≠ .defer c) :
    stepG P true { frame:=Fr fn rd tm df (.inRegion ops (i :: rest) :: k),callers:=cs,status:=.running,dying:=none } w =
      stepG.apply P true (Fr fn rd tm df (.inRegion ops (i :: rest) :: k)) cs none (execOp (⟨tm,df⟩:Act).eval o) w:=by
  have he:=Fr.eval fn rd tm df (.inRegion ops (i :: rest) :: k)
  simp only [Fr] at he
  cases rd with
  | none=>simp [stepG,stepG.exec,stepG.oper,Frame.oper?,Fr,ho,hw,he]
  | some l=>
    obtain ⟨dst,op,ty,pos,after,guard⟩:=o
    cases op <;> first
      | exact absurd rfl (hd _)
      | simp [stepG,stepG.exec,stepG.oper,Frame.oper?,Fr,ho,hw,he]

theorem xPy {ops:Array Oper} {i:Nat} {rest:List Nat} {o:Oper} (ho:ops[i]? = some o) (hw:Region.wanted o (yielded ops tm)=true) (hd : ∀ c,o.op ≠ .defer c) {v:Value} {w':World}
    (hr:(execOp (⟨tm,df⟩:Act).eval o).run P w = .ok (.value v) w') :
    Steps P (lone (Fr fn rd tm df (.inRegion ops (i :: rest) :: k)) cs w) (lone (Fr fn rd (putA tm o.dst v) df (.inRegion ops rest :: k)) cs w'):=by
  rw [← xHz ho]
  refine .one (step_lone_go ?_)
  rw [xIw ho hw hd]
  simp [stepG.apply,hr]

theorem s_opUnit {ops:Array Oper} {i:Nat} {rest:List Nat} {o:Oper} (ho:ops[i]? = some o) (hw:Region.wanted o (yielded ops tm)=true) (hd : ∀ c,o.op ≠ .defer c) {w':World}
    (hr:(execOp (⟨tm,df⟩:Act).eval o).run P w = .ok .skip w') :
    Steps P (lone (Fr fn rd tm df (.inRegion ops (i :: rest) :: k)) cs w) (lone (Fr fn rd (putA tm o.dst undef) df (.inRegion ops rest :: k)) cs w'):=by
  rw [← xHz ho]
  refine .one (step_lone_go ?_)
  rw [xIw ho hw hd]
  simp [stepG.apply,hr]

theorem s_opEnter {ops:Array Oper} {i:Nat} {rest:List Nat} {o:Oper} (ho:ops[i]? = some o) (hw:Region.wanted o (yielded ops tm)=true) (hd : ∀ c,o.op ≠ .defer c) {f:FuncId} {args:Array Value} {w':World}
    (hr:(execOp (⟨tm,df⟩:Act).eval o).run P w = .ok (.enter f args) w') :
    Steps P (lone (Fr fn rd tm df (.inRegion ops (i :: rest) :: k)) cs w) (lone (Frame.enter P f args .normal) (Fr fn rd tm df (.inRegion ops (i :: rest) :: k) :: cs) w'):=by
  refine .one (step_lone_go ?_)
  rw [xIw ho hw hd]
  simp [stepG.apply,hr,Fr]

theorem s_opRound {ops:Array Oper} {i:Nat} {rest:List Nat} {o:Oper} (ho:ops[i]? = some o) (hw:Region.wanted o (yielded ops tm)=true) (hd : ∀ c,o.op ≠ .defer c) {l:Nat} {f:FuncId} {tmps:Array Value} {asg body:Code} {w':World}
    (hr:(execOp (⟨tm,df⟩:Act).eval o).run P w = .ok (.round l f tmps asg body) w') :
    Steps P (lone (Fr fn rd tm df (.inRegion ops (i :: rest) :: k)) cs w) (lone (Fr f (some l) tmps [] [.code asg,.beginRound,.code body]) (Fr fn rd tm df (.inRegion ops (i :: rest) :: k) :: cs) w'):=by
  refine .one (step_lone_go ?_)
  rw [xIw ho hw hd]
  simp [stepG.apply,hr,Fr,Frame.round]

theorem s_ret :Steps P (lone (Fr fn none tm df (.code .ret :: k)) cs w) (lone { Fr fn none tm df (.code .ret :: k) with mode:=.returning } cs w):=.one (step_lone_go (by simp [stepG,stepG.exec,Fr]))
theorem s_end :Steps P (lone (Fr fn none tm df []) cs w) (lone { Fr fn none tm df [] with mode:=.returning } cs w):=.one (step_lone_go (by simp [stepG,stepG.exec,Fr]))

theorem xSy {l:Nat} {jump:Option Code} {todo:List Item} (hj:(todo=[]∧jump=none)∨(todo = .code .ret :: k∧jump=some .ret) ∨ ∃ id,todo = .code (.exit id) :: k∧exitTo id k=none∧jump=some (.exit id))
    {v:Value} {w':World} (hr:(Instr.endRound l jump).run P w = .ok v w') {c:Frame} : Steps P (lone (Fr fn (some l) tm [] todo) (c :: cs) w) (lone (c.finish v) cs w'):=by
  refine .one (step_lone_go ?_)
  rcases hj with ⟨rfl,rfl⟩|⟨rfl,rfl⟩|⟨id,rfl,hx,rfl⟩
  · simp [stepG,stepG.exec,Fr,hr,doReturn]
  · simp [stepG,stepG.exec,Fr,hr,doReturn]
  · simp [stepG,stepG.exec,Fr,hx,hr,doReturn]

theorem s_beginRound {l:Nat} {w':World} (hr:(Instr.beginRound l).run P w = .ok () w'):Steps P (lone (Fr fn (some l) tm df (.beginRound :: k)) cs w) (lone (Fr fn (some l) tm df k) cs w'):=by
  refine .one (step_lone_go ?_)
  simp [stepG,stepG.exec,stepG.apply,Fr,hr,Frame.finish]

theorem s_rangeFn {f:Operand} {params:Array Tmp} {asg body:Code} {l:Nat} {mark:List Deferred} {w':World} (hr:(Instr.enterLoop fn tm params asg body rd).run P w = .ok (l,mark) w')
    {g:FuncId} {args:Array Value} {w2:World} (hc:(do let d ← resolve (⟨tm,df⟩:Act).eval { callee:=.value f,args:=#[.const (.func (.yield l) #[] #[])],argTypes:=#[] } 0;invoke d.target d.args:Sem Next).run P w' = .ok (.enter g args) w2) :
    Steps P (lone (Fr fn rd tm df (.code (.rangeFunc f params asg body) :: k)) cs w) (lone (Frame.enter P g args .normal) (Fr fn rd tm (mark++df) (.inRangeFunc l :: k) :: cs) w2):=by
  refine .one (step_lone_go ?_)
  have he:(Fr fn rd tm (mark++df) (.inRangeFunc l :: k)).eval=(⟨tm,df⟩:Act).eval:=by funext x;cases x <;> rfl
  simp only [Fr] at he
  simp only [Sem.run_bind] at hc
  simp [stepG,stepG.exec,stepG.apply,Fr,hr,he,hc]

theorem s_rangeYld {f:Operand} {params:Array Tmp} {asg body:Code} {l:Nat} {mark:List Deferred} {w':World} (hr:(Instr.enterLoop fn tm params asg body rd).run P w = .ok (l,mark) w')
    {m:Nat} {g:FuncId} {tmps:Array Value} {a2 b2:Code} {w2:World} (hc:(do let d ← resolve (⟨tm,df⟩:Act).eval { callee:=.value f,args:=#[.const (.func (.yield l) #[] #[])],argTypes:=#[] } 0;invoke d.target d.args:Sem Next).run P w' = .ok (.round m g tmps a2 b2) w2) :
    Steps P (lone (Fr fn rd tm df (.code (.rangeFunc f params asg body) :: k)) cs w) (lone (Fr g (some m) tmps [] [.code a2,.beginRound,.code b2]) (Fr fn rd tm (mark++df) (.inRangeFunc l :: k) :: cs) w2):=by
  refine .one (step_lone_go ?_)
  have he:(Fr fn rd tm (mark++df) (.inRangeFunc l :: k)).eval=(⟨tm,df⟩:Act).eval:=by funext x;cases x <;> rfl
  simp only [Fr] at he
  simp only [Sem.run_bind] at hc
  simp [stepG,stepG.exec,stepG.apply,Fr,Frame.round,hr,he,hc]

theorem xZx {l:Nat} (v:Value):(Fr fn rd tm df (.inRangeFunc l :: k)).finish v=Fr fn rd tm df (.endRangeFunc l :: k):=rfl

theorem s_endLoop {l:Nat} {jump:Option Code} {w':World} (hr:(Instr.endLoop l).run P w = .ok jump w') :
    Steps P (lone (Fr fn rd tm df (.endRangeFunc l :: k)) cs w) (lone (Fr fn rd tm df ((jump.map Item.code).toList++k)) cs w'):=by
  refine .one (step_lone_go ?_)
  simp [stepG,stepG.exec,Fr,hr]

theorem s_take {b:Nat} {args:Array Value} {ds:List Deferred} {todo:List Item} {w':World} (hr:(Instr.takeDeferred b).run P w = .ok [] w') :
    Steps P (lone { Fr fn none tm ({ target:=.collected b,args:=args } :: ds) todo with mode:=.returning } cs w) (lone { Fr fn none tm ds todo with mode:=.returning } cs w'):=by
  refine .one (step_lone_go ?_)
  simp [stepG,unwind,Fr,hr]
end

end Go.Ev
end

section
namespace Go.Ev

def EvOk (ρ : R) (tm:M AV) (a:Act) (xs:List Operand):Prop:=∀ x ∈ xs,∀ v,evT tm x=some v→VR ρ v (a.eval x)

theorem EvOk.mono {ρ : R} {tm:M AV} {a:Act} {xs ys:List Operand} (h:EvOk ρ tm a ys) (hs : ∀ x ∈ xs,x ∈ ys):EvOk ρ tm a xs:=fun x hx=>h x (hs x hx)

theorem EvOk.all {ρ : R} {n:Nat} {tm:M AV} {a:Act} (hg:GR ρ) (ht:TR ρ n tm a.tmps) (xs:List Operand):EvOk ρ tm a xs:=fun _ _ _ h=>evT_vr hg ht h

theorem EvOk.list {ρ : R} {tm:M AV} {a:Act} : ∀ {xs:List Operand} {vs:List AV},EvOk ρ tm a xs→evL tm xs=some vs→VL ρ vs (xs.map a.eval)
  | [],vs,_,h=>by cases h;exact .nil
  | x :: xs,vs,ho,h=>by
    unfold evL at h
    cases h1:evT tm x with
    | none=>rw [h1] at h;cases h
    | some v=>
      cases h2:evL tm xs with
      | none=>rw [h1,h2] at h;cases h
      | some us=>rw [h1,h2] at h;cases h;exact .cons _ _ _ _ (ho x (by simp) v h1) ((ho.mono fun y hy=>by simp [hy]).list h2)

theorem EvOk.parts {ρ : R} {tm:M AV} {a:Act} : ∀ {ps:List (Nat × Operand)} {qs:List (Nat × AV)},EvOk ρ tm a (ps.map (·.2))→evParts tm ps=some qs→PL ρ qs (ps.map fun p=>(p.1,a.eval p.2))
  | [],qs,_,h=>by cases h;exact .nil
  | (i,x) :: ps,qs,ho,h=>by
    unfold evParts at h
    cases h1:evT tm x with
    | none=>rw [h1] at h;cases h
    | some v=>
      cases h2:evParts tm ps with
      | none=>rw [h1,h2] at h;cases h
      | some us=>rw [h1,h2] at h;cases h;exact .cons _ _ _ _ _ (ho x (by simp) v h1) ((ho.mono fun y hy=>by simp at hy ⊢;exact .inr hy).parts h2)

theorem EvOk.opt {ρ : R} {tm:M AV} {a:Act} {x:Option Operand} {k:Option Nat} (ho:EvOk ρ tm a x.toList) (h:optNat tm x=some k):BR k (x.map a.eval):=by
  unfold optNat at h
  cases x with
  | none=>cases h;exact .inl ⟨rfl,rfl⟩
  | some o=>
    dsimp only at h
    cases h1:evT tm o with
    | none=>rw [h1] at h;cases h
    | some v=>
      rw [h1] at h
      dsimp only at h
      cases h2:toNatE v with
      | none=>rw [h2] at h;cases h
      | some j=>
        rw [h2] at h
        cases h
        obtain ⟨ik,rfl⟩:=yYw h2
        have:=ho o (by simp) _ h1
        cases hev:a.eval o with
        | int k' m'=>rw [hev] at this;cases this;exact .inr ⟨j,ik,rfl,by simp [hev]⟩
        | _=>rw [hev] at this;cases this

def OpGood (P:Program) (s:Sem Next) (ρ : R) (h:H) (w:World) (v:AV) (h':H):Prop:=
  ∃ ρ' v' w',(s.run P w = .ok (.value v') w'∨(s.run P w = .ok .skip w'∧v'=undef))∧VR ρ' v v'∧HR ρ' h' w'∧Ext ρ h w ρ' h' w'

theorem Good.op {P:Program} {s:Sem Value} {ρ : R} {h h':H} {w:World} {v:AV} (g:Good P s ρ h w v h'):OpGood P (do pure (.value (← s))) ρ h w v h':=by
  obtain ⟨ρ',v',w',e1,e2⟩:=g
  exact ⟨ρ',v',w',.inl (by simp [e1]),e2⟩

theorem GoodU.op {P:Program} {s:Sem Unit} {ρ : R} {h h':H} {w:World} (g:GoodU P s ρ h w h'):OpGood P (do s;pure .skip) ρ h w (.tup []) h':=by
  obtain ⟨w',e1,e2,e3⟩:=g
  exact ⟨ρ,undef,w',.inr ⟨by simp [e1],rfl⟩,.tup [] #[] .nil,e2,e3⟩

theorem Pur.op {P:Program} {s:Sem Value} {ρ : R} {h:H} {w:World} {v:AV} (p:Pur P s ρ w v) (hr:HR ρ h w):OpGood P (do pure (.value (← s))) ρ h w v h:=(p.good hr).op

theorem zPz {o:Option AV} {h h':H} {v:AV} (e:RV.of o h = .ok v h'):o=some v∧h'=h:=by
  cases o with
  | none=>cases e
  | some u=>cases e;exact ⟨rfl,rfl⟩
theorem done_some {o:Option H} {h':H} {v:AV} (e:RV.done o = .ok v h'):o=some h'∧v = .tup []:=by
  cases o with
  | none=>cases e
  | some u=>cases e;exact ⟨rfl,rfl⟩
theorem zMz {o:Option AV} {f:AV→RV} {h':H} {v:AV} (e:on1 o f = .ok v h') : ∃ u,o=some u∧f u = .ok v h':=by
  cases o with
  | none=>cases e
  | some u=>exact ⟨u,rfl,e⟩

theorem newMap_run {P:Program} {ρ : R} {h h':H} {w:World} (hr:HR ρ h w) {v:AV} (hn:newMap h = .ok v h'):Good P (do pure (.map (some (← Go.newObj (.map #[] 0))))) ρ h w v h':=by
  unfold newMap at hn
  cases hc:Ev.newObj (.map [] 0) h with
  | none=>rw [hc] at hn;cases hn
  | some ih=>
    obtain ⟨id,h2⟩:=ih
    rw [hc] at hn
    cases hn
    obtain ⟨_,h3,h4⟩:=hr.newObj hc (OR.map [] 0 #[] .nil) (fun i=>by simp [World.frozen?])
    exact ⟨_,.map (some w.heap.size),_,by simp,.map id _ _ (show _=some (some (w.heap.size,0)) by simp [R.new]) (fun c n e=>by cases e;rfl),h3,h4⟩

theorem yYz {α : Type} {a:Array α} {x y : α} (h:a.toList=[x,y]):a = #[x,y]:=by cases a;simp at h;subst h;rfl
theorem xIx {α : Type} {a:Array α} {x : α} (h:a.toList=[x]):a = #[x]:=by cases a;simp at h;subst h;rfl

theorem builtinE_run {P:Program} {ρ : R} {h h':H} {w:World} (hr:HR ρ h w) {b:Builtin} {ats:Array TypeId} {ty:TypeId} {consts:Array Bool} {args:List AV} {args':Array Value} {v:AV} (ha:VL ρ args args'.toList)
    (hb:builtinE P b ats.toList ty args h = .ok v h'):OpGood P (Go.builtin b ats ty consts args') ρ h w v h':=by
  unfold builtinE at hb
  split at hb
  · rename_i t x ht
    obtain rfl:=xIx ht
    obtain ⟨e1,rfl⟩:=zPz hb
    cases h2:args'.toList with
    | nil=>rw [h2] at ha;cases ha
    | cons x' l=>
      rw [h2] at ha
      cases ha with
      | cons _ _ _ _ hx hl=>
        cases hl
        obtain rfl:=xIx h2
        exact (lenE_run (P:=P) hr hx e1).op hr
  · rename_i t u s x ht
    obtain rfl:=yYz ht
    cases hn:notInt P u with
    | false=>rw [hn] at hb;cases hb
    | true=>
      rw [hn] at hb
      cases h2:args'.toList with
      | nil=>rw [h2] at ha;cases ha
      | cons s' l=>
        rw [h2] at ha
        cases ha with
        | cons _ _ _ _ hs hl=>
          cases hl with
          | cons _ _ x' _ hx hl=>
            cases hl
            obtain rfl:=yYz h2
            exact (appendE_run (P:=P) hr hn (hs.reszT t) (hx.reszT t) (show appendE P t (reszT P t s) (reszT P t x) h = .ok v h' from hb)).op
  · rename_i t u d x ht
    obtain rfl:=yYz ht
    cases h2:args'.toList with
    | nil=>rw [h2] at ha;cases ha
    | cons s' l=>
      rw [h2] at ha
      cases ha with
      | cons _ _ _ _ hs hl=>
        cases hl with
        | cons _ _ x' _ hx hl=>
          cases hl
          obtain rfl:=yYz h2
          exact (copyE_run (P:=P) hr hs (hx.reszT t) hb).op
  · rename_i t x ht
    obtain rfl:=xIx ht
    cases h2:args'.toList with
    | nil=>rw [h2] at ha;cases ha
    | cons x' l=>
      rw [h2] at ha
      cases ha with
      | cons _ _ _ _ hx hl=>
        cases hl
        obtain rfl:=xIx h2
        exact (clearE_run (P:=P) hr hx hb).op
  · rename_i t u m k ht
    obtain rfl:=yYz ht
    cases h2:args'.toList with
    | nil=>rw [h2] at ha;cases ha
    | cons m' l=>
      rw [h2] at ha
      cases ha with
      | cons _ _ _ _ hm hl=>
        cases hl with
        | cons _ _ k' _ hk hl=>
          cases hl
          obtain rfl:=yYz h2
          exact (deleteE_run (P:=P) hr hm hk hb).op
  · rename_i args b2 ats2 args2
    cases hc:concL args with
    | none=>rw [hc] at hb;cases hb
    | some vs=>
      rw [hc] at hb
      obtain ⟨e1,rfl⟩:=zPz hb
      have e2:=wBy hc ha
      have e3:args'=vs.toArray:=by cases args';simp at e2;simp [e2]
      subst e3
      have:(ats.toList.toArray)=ats:=by simp
      rw [this] at e1
      have p:Pur P (Builtin.min_ ats ty vs.toArray) ρ w v:=yTv e1 w
      exact p.op hr
  · rename_i args b2 ats2 args2
    cases hc:concL args with
    | none=>rw [hc] at hb;cases hb
    | some vs=>
      rw [hc] at hb
      obtain ⟨e1,rfl⟩:=zPz hb
      have e2:=wBy hc ha
      have e3:args'=vs.toArray:=by cases args';simp at e2;simp [e2]
      subst e3
      have:(ats.toList.toArray)=ats:=by simp
      rw [this] at e1
      have p:Pur P (Builtin.max_ ats ty vs.toArray) ρ w v:=yTv e1 w
      exact p.op hr
  · cases hb

theorem execE_plain {P:Program} {ih:Evs} {ρ : R} {h h':H} {w:World} {tm:M AV} {a:Act} {o:Oper} {v:AV} (hr:HR ρ h w) (ho:EvOk ρ tm a o.op.operands.toList) (hnc : ∀ c,o.op ≠ .call c)
    (he:execE P ih tm o.type o.op h = .ok v h'):OpGood P (execOp a.eval o) ρ h w v h':=by
  obtain ⟨dst,op,ty,pos,after,guard⟩:=o
  dsimp only at he ho hnc
  have e1 : ∀ x,x ∈ op.operands.toList → ∀ u,evT tm x=some u→VR ρ u (a.eval x):=ho
  cases op with
  | move x=>obtain ⟨k,rfl⟩:=zPz he;exact ⟨ρ,a.eval x,w,.inl rfl,e1 x (by simp [Op.operands]) v k,hr,.refl⟩
  | assign x=>obtain ⟨k,rfl⟩:=zPz he;exact ⟨ρ,a.eval x,w,.inl rfl,e1 x (by simp [Op.operands]) v k,hr,.refl⟩
  | pick c x y=>
    obtain ⟨k,rfl⟩:=zPz he
    unfold pickE at k
    cases hc:evT tm c with
    | none=>rw [hc] at k;cases k
    | some cv=>
      rw [hc] at k
      dsimp only at k
      cases hb:asB cv with
      | none=>rw [hb] at k;cases k
      | some t=>
        rw [hb] at k
        obtain rfl:=wBw hb
        have hcv:=e1 c (by simp [Op.operands]) _ hc
        cases hac:a.eval c with
        | bool t'=>
          rw [hac] at hcv
          cases hcv
          cases t with
          | true=>exact ⟨ρ,a.eval x,w,.inl (by simp [execOp,hac,asBool]),e1 x (by simp [Op.operands]) v k,hr,.refl⟩
          | false=>exact ⟨ρ,a.eval y,w,.inl (by simp [execOp,hac,asBool]),e1 y (by simp [Op.operands]) v k,hr,.refl⟩
        | _=>rw [hac] at hcv;cases hcv
  | alloc e=>exact (allocE_run (P:=P) hr he).op
  | box e x=>obtain ⟨u,k1,k2⟩:=zMz he;exact (boxE_run (P:=P) hr (e1 x (by simp [Op.operands]) u k1) k2).op
  | build t ps=>
    obtain ⟨k,rfl⟩:=zPz he
    unfold buildO at k
    cases hp:evParts tm ps.toList with
    | none=>rw [hp] at k;cases k
    | some parts=>
      rw [hp] at k
      have hpl:PL ρ parts (ps.map fun p=>(p.1,a.eval p.2)).toList:=by
        rw [Array.toList_map]
        exact EvOk.parts (fun x hx=>e1 x (by simpa [Op.operands] using hx)) hp
      exact (buildE_run (P:=P) hpl k).op hr
  | buildSlice t n ps=>
    have he':buildSliceO P tm t n ps h = .ok v h':=he
    unfold buildSliceO at he'
    cases hp:evParts tm ps.toList with
    | none=>rw [hp] at he';cases he'
    | some parts=>
      rw [hp] at he'
      have hpl:PL ρ parts (ps.map fun p=>(p.1,a.eval p.2)).toList:=by
        rw [Array.toList_map]
        exact EvOk.parts (fun x hx=>e1 x (by simpa [Op.operands] using hx)) hp
      exact (buildSliceE_run (P:=P) hr hpl he').op
  | load t x=>obtain ⟨u,k1,k2⟩:=zMz he;obtain ⟨k,rfl⟩:=zPz k2;exact (loadE_run (P:=P) hr (e1 x (by simp [Op.operands]) u k1) k).op hr
  | store t x y=>
    obtain ⟨u,k1,k2⟩:=zMz he
    obtain ⟨u2,k3,k4⟩:=zMz k2
    obtain ⟨k,rfl⟩:=done_some k4
    exact (storeE_run (P:=P) hr (e1 x (by simp [Op.operands]) u k1) (e1 y (by simp [Op.operands]) u2 k3) k).op
  | nilCheck x=>
    obtain ⟨u,k1,k2⟩:=zMz he
    obtain ⟨k,rfl⟩:=zPz k2
    have hu:=e1 x (by simp [Op.operands]) u k1
    have hx : ∃ q,a.eval x=q:=⟨_,rfl⟩
    obtain ⟨q,hq⟩:=hx
    rw [hq] at hu
    cases hu with
    | ptr id off b y g1 g2=>cases k;exact ⟨ρ,_,w,.inl (by simp only [execOp,hq];rfl),.ptr id off b y g1 g2,hr,.refl⟩
    | fn f a1 c1 a2 c2 g1 g2=>cases k;exact ⟨ρ,_,w,.inl (by simp only [execOp,hq];rfl),.fn f a1 c1 a2 c2 g1 g2,hr,.refl⟩
    | yld id b y g1 g2=>cases k;exact ⟨ρ,_,w,.inl (by simp only [execOp,hq];rfl),.yld id b y g1 g2,hr,.refl⟩
    | _=>cases k
  | binOp op t x y yt=>
    obtain ⟨u,k1,k2⟩:=zMz he
    obtain ⟨u2,k3,k4⟩:=zMz k2
    obtain ⟨k,rfl⟩:=zPz k4
    exact (binE_run (P:=P) (e1 x (by simp [Op.operands]) u k1) (e1 y (by simp [Op.operands]) u2 k3) k).op hr
  | unOp op t x=>
    obtain ⟨u,k1,k2⟩:=zMz he
    obtain ⟨k,rfl⟩:=zPz k2
    unfold unE at k
    cases hc:conc1 u with
    | none=>rw [hc] at k;cases k
    | some uv=>
      rw [hc] at k
      have hu:=conc1_eq hc (e1 x (by simp [Op.operands]) u k1)
      have p:Pur P (Op.unary op (a.eval x)) ρ w v:=by rw [hu];exact yTv k w
      exact p.op hr
  | convert s d x=>
    obtain ⟨u,k1,k2⟩:=zMz he
    obtain ⟨k,rfl⟩:=zPz k2
    have hu:=e1 x (by simp [Op.operands]) u k1
    cases u with
    | int ik m=>
      have hx : ∃ q,a.eval x=q:=⟨_,rfl⟩
      obtain ⟨q,hq⟩:=hx
      rw [hq] at hu
      cases hu
      unfold convE at k
      dsimp only at k
      cases hd:P.underlying d with
      | none=>rw [hd] at k;cases k
      | some dd=>
        rw [hd] at k
        cases dd with
        | int kk=>
          have p:Pur P (convert s d (a.eval x)) ρ w v:=by rw [hq];exact yTv k w
          exact p.op hr
        | _=>cases k
    | _=>cases k
  | makeFunc f first cap=>
    have he':makeFuncE tm f first cap h = .ok v h':=he
    unfold makeFuncE at he'
    cases f with
    | func f=>
      dsimp only at he'
      cases h1:evL tm first.toList with
      | none=>rw [h1] at he';cases he'
      | some l1=>
        cases h2:evL tm cap.toList with
        | none=>rw [h1,h2] at he';cases he'
        | some l2=>
          rw [h1,h2] at he'
          cases he'
          have g1:VL ρ l1 (first.map a.eval).toList:=by
            rw [Array.toList_map];exact EvOk.list (fun x hx=>e1 x (by simp [Op.operands];exact .inl (by simpa using hx))) h1
          have g2:VL ρ l2 (cap.map a.eval).toList:=by
            rw [Array.toList_map];exact EvOk.list (fun x hx=>e1 x (by simp [Op.operands];exact .inr (by simpa using hx))) h2
          exact ⟨ρ,_,w,.inl rfl,.fn f l1 l2 _ _ g1 g2,hr,.refl⟩
    | _=>cases he'
  | makeMap t r=>
    have he':makeMapE P tm t r h = .ok v h':=he
    unfold makeMapE at he'
    cases r with
    | none=>
      dsimp only at he'
      obtain ⟨ρ',v',w',g1,g2⟩:=newMap_run (P:=P) hr he'
      exact Good.op (s:=Instr.makeMap t none) ⟨ρ',v',w',by simpa [Instr.makeMap] using g1,g2⟩
    | some x=>
      dsimp only at he'
      cases hu:P.underlying t with
      | none=>rw [hu] at he';cases he'
      | some d=>
        cases hx:evT tm x with
        | none=>rw [hu,hx] at he';cases d <;> cases he'
        | some u=>
          rw [hu,hx] at he'
          have hxv:=e1 x (by simp [Op.operands]) u hx
          cases d with
          | map kt et=>
            cases u with
            | int ik m=>
              dsimp only at he'
              obtain ⟨q,hq⟩ : ∃ q,a.eval x=q:=⟨_,rfl⟩
              rw [hq] at hxv
              cases hxv
              obtain ⟨ρ',v',w',g1,g2⟩:=newMap_run (P:=P) hr he'
              refine Good.op (s:=Instr.makeMap t (some (a.eval x))) ⟨ρ',v',w',?_,g2⟩
              rw [hq]
              simp only [Instr.makeMap,Sem.run_bind,run_underlying hu,Result.andThen_ok,asInt,asIntOf,Sem.run_pure] at g1 ⊢
              exact g1
            | _=>cases he'
          | _=>cases he'
  | makeSlice t l c=>
    obtain ⟨u,k1,k2⟩:=zMz he
    obtain ⟨u2,k3,k4⟩:=zMz k2
    exact (makeSliceE_run (P:=P) hr (e1 l (by simp [Op.operands]) u k1) (e1 c (by simp [Op.operands]) u2 k3) k4).op
  | slice t x lo hi mx=>
    obtain ⟨k,rfl⟩:=zPz he
    unfold slicesE at k
    cases h1:evT tm x with
    | none=>rw [h1] at k;cases k
    | some xv=>
      cases h2:optNat tm lo with
      | none=>rw [h1,h2] at k;cases k
      | some l2=>
        cases h3:optNat tm hi with
        | none=>rw [h1,h2,h3] at k;cases k
        | some l3=>
          cases h4:optNat tm mx with
          | none=>rw [h1,h2,h3,h4] at k;cases k
          | some l4=>
            rw [h1,h2,h3,h4] at k
            have b2:=EvOk.opt (ρ:=ρ) (a:=a) (fun y hy=>e1 y (by simp [Op.operands] at hy ⊢;simp [hy])) h2
            have b3:=EvOk.opt (ρ:=ρ) (a:=a) (fun y hy=>e1 y (by simp [Op.operands] at hy ⊢;simp [hy])) h3
            have b4:=EvOk.opt (ρ:=ρ) (a:=a) (fun y hy=>e1 y (by simp [Op.operands] at hy ⊢;simp [hy])) h4
            exact (sliceE_run (P:=P) ((e1 x (by simp [Op.operands]) xv h1).reszT t) b2 b3 b4 k).op hr
  | fieldAddr s x f=>obtain ⟨u,k1,k2⟩:=zMz he;obtain ⟨k,rfl⟩:=zPz k2;exact (xLv (P:=P) (e1 x (by simp [Op.operands]) u k1) k).op hr
  | field t x f=>obtain ⟨u,k1,k2⟩:=zMz he;obtain ⟨k,rfl⟩:=zPz k2;exact (fieldE_run (P:=P) (e1 x (by simp [Op.operands]) u k1) k).op hr
  | indexAddr t x i=>
    obtain ⟨u,k1,k2⟩:=zMz he
    obtain ⟨u2,k3,k4⟩:=zMz k2
    obtain ⟨k,rfl⟩:=zPz k4
    exact (xLw (P:=P) (e1 x (by simp [Op.operands]) u k1) (e1 i (by simp [Op.operands]) u2 k3) k).op hr
  | index t x i=>
    obtain ⟨u,k1,k2⟩:=zMz he
    obtain ⟨u2,k3,k4⟩:=zMz k2
    obtain ⟨k,rfl⟩:=zPz k4
    exact (indexE_run (P:=P) (e1 x (by simp [Op.operands]) u k1) (e1 i (by simp [Op.operands]) u2 k3) k).op hr
  | lookup t x k ok=>
    obtain ⟨u,k1,k2⟩:=zMz he
    obtain ⟨u2,k3,k4⟩:=zMz k2
    obtain ⟨kk,rfl⟩:=zPz k4
    exact (lookupE_run (P:=P) hr (e1 x (by simp [Op.operands]) u k1) (e1 k (by simp [Op.operands]) u2 k3) kk).op hr
  | mapUpdate t m k x=>
    obtain ⟨u,k1,k2⟩:=zMz he
    obtain ⟨u2,k3,k4⟩:=zMz k2
    obtain ⟨u3,k5,k6⟩:=zMz k4
    obtain ⟨kk,rfl⟩:=done_some k6
    exact (updateE_run (P:=P) hr (e1 m (by simp [Op.operands]) u k1) (e1 k (by simp [Op.operands]) u2 k3) (e1 x (by simp [Op.operands]) u3 k5) kk).op
  | extract t i=>
    obtain ⟨u,k1,k2⟩:=zMz he
    obtain ⟨k,rfl⟩:=zPz k2
    unfold extractE at k
    cases ht:asTup u with
    | none=>rw [ht] at k;cases k
    | some vs=>
      rw [ht] at k
      dsimp only at k
      rw [xGv] at k
      obtain rfl:=asTup_some ht
      have hu:=e1 t (by simp [Op.operands]) _ k1
      obtain ⟨q,hq⟩ : ∃ q,a.eval t=q:=⟨_,rfl⟩
      rw [hq] at hu
      cases hu with
      | tup _ cs' hc=>
        obtain ⟨v',g1,g2⟩:=hc.get k
        have g1':cs'[i]? = some v':=by simpa using g1
        have p:Pur P (Instr.extract (a.eval t) i) ρ w v:=by rw [hq];exact ⟨v',by simp [Instr.extract,g1'],g2⟩
        exact p.op hr
  | call c=>exact absurd rfl (hnc c)
  | _=>cases he

end Go.Ev
end

section
namespace Go.Ev

mutual
theorem VR.down {ρ ρ':R} (h : ∀ id x,ρ id=some x → ρ' id=some x) : ∀ {v:AV} {u v':Value},VR ρ v u→VR ρ' v v'→VR ρ v v'
  | _,_,_,.bool b,r=>by cases r;exact .bool b
  | _,_,_,.int k n,r=>by cases r;exact .int k n
  | _,_,_,.str s,r=>by cases r;exact .str s
  | _,_,_,.ptr id off b x hx hp,r=>by
    cases r with
    | ptr _ _ b2 y hy hq=>have:=(h id x hx).symm.trans hy;cases this;exact .ptr id off b2 x hx hq
  | _,_,_,.nilp,r=>by cases r;exact .nilp
  | _,_,_,.sl id off len cap esz b cap' x hx hp hc hl,r=>by
    cases r with
    | sl _ _ _ _ _ b2 cap2 y hy hq hc2 hl2=>have:=(h id x hx).symm.trans hy;cases this;exact .sl id off len cap esz b2 cap2 x hx hq hc2 hl2
    | sle _ _ _ a0 hy=>have:=(h id x hx).symm.trans hy;cases this;exact .sle id off esz a0 hx
    | slu _ _ _ c0 a0 y hy h0=>exact .slu id off esz c0 a0 x hx h0
  | _,_,_,.slu id off esz c a x hx h0,r=>by
    cases r with
    | sl _ _ _ _ _ b2 cap2 y hy hq hc2 hl2=>have:=(h id x hx).symm.trans hy;cases this;exact .sl id off 0 none esz b2 cap2 x hx hq hc2 hl2
    | slu _ _ _ c0 a0 y hy h1=>exact .slu id off esz c0 a0 x hx h1
  | _,_,_,.sle id off esz a hx,r=>by
    cases r with
    | sl _ _ _ _ _ b2 cap2 y hy hq hc2 hl2=>have:=(h id none hx).symm.trans hy;cases this;exact .sl id off 0 (some 0) esz b2 cap2 none hx hq hc2 hl2
    | sle _ _ _ a0 hy=>exact .sle id off esz a0 hx
  | _,_,_,.nils,r=>by cases r;exact .nils
  | _,_,_,.map id b x hx hp,r=>by
    cases r with
    | map _ b2 y hy hq=>have:=(h id x hx).symm.trans hy;cases this;exact .map id b2 x hx hq
  | _,_,_,.nilm,r=>by cases r;exact .nilm
  | _,_,_,.fn f a c a' c' ha hc,r=>by
    cases r with
    | fn _ _ _ a2 c2 ha2 hc2=>exact .fn f a c a2 c2 (VL.down h ha ha2) (VL.down h hc hc2)
  | _,_,_,.yld id b x hx hp,r=>by
    cases r with
    | yld _ b2 y hy hq=>have:=(h id x hx).symm.trans hy;cases this;exact .yld id b2 x hx hq
  | _,_,_,.nilf,r=>by cases r;exact .nilf
  | _,_,_,.iface t v v' hv,r=>by
    cases r with
    | iface _ _ v2 hv2=>exact .iface t v v2 (VR.down h hv hv2)
  | _,_,_,.nili,r=>by cases r;exact .nili
  | _,_,_,.agg cs cs' hc,r=>by
    cases r with
    | agg _ cs2 hc2=>exact .agg cs cs2 (VL.down h hc hc2)
  | _,_,_,.tup cs cs' hc,r=>by
    cases r with
    | tup _ cs2 hc2=>exact .tup cs cs2 (VL.down h hc hc2)
theorem VL.down {ρ ρ':R} (h : ∀ id x,ρ id=some x → ρ' id=some x) : ∀ {v:List AV} {u v':List Value},VL ρ v u→VL ρ' v v'→VL ρ v v'
  | _,_,_,.nil,r=>by cases r;exact .nil
  | _,_,_,.cons v vs u us hv hvs,r=>by
    cases r with
    | cons _ _ u2 us2 hv2 hvs2=>exact .cons v vs u2 us2 (VR.down h hv hv2) (VL.down h hvs hvs2)
end

theorem RowsF.down {ρ ρ':R} (h : ∀ id x,ρ id=some x → ρ' id=some x) {m:Nat→Option AV} {c c':Array Value} (a:RowsF ρ m c) (b:RowsF ρ' m c'):RowsF ρ m c':=fun i v hv=>by
  obtain ⟨u,_,h1⟩:=a i v hv
  obtain ⟨v',h2,h3⟩:=b i v hv
  exact ⟨v',h2,h1.down h h3⟩
theorem TR.down {ρ ρ':R} (h : ∀ id x,ρ id=some x → ρ' id=some x) {n:Nat} {m:M AV} {c c':Array Value} (a:TR ρ n m c) (b:TR ρ' n m c'):TR ρ n m c':=
  ⟨b.1,fun i v hv=>(a.2 i v hv).down h (b.2 i v hv)⟩
theorem ER.down {ρ ρ':R} (h : ∀ id x,ρ id=some x → ρ' id=some x) {es:List (Value × AV × Nat)} {c c':List MapEntry} (a:ER ρ es c):ER ρ' es c'→ER ρ es c':=by
  induction a generalizing c' with
  | nil=>intro b;cases b;exact .nil
  | cons k v born u es c hv _ ih=>
    intro b
    cases b with
    | cons _ _ _ u2 _ c2 hv2 h2=>exact .cons k v born u2 es c2 (hv.down h hv2) (ih h2)
theorem OR.down {ρ ρ':R} (h : ∀ id x,ρ id=some x → ρ' id=some x) {n:Nat} {o:AO} {c c':Obj} (a:OR ρ n o c) (b:OR ρ' n o c'):OR ρ n o c':=by
  cases a with
  | cells m e c hc=>
    generalize hn:c.size=n at b
    cases b with
    | cells _ _ c2 hc2=>exact .cells m e c2 (hc.down h hc2)
  | ro m e c f hc=>
    generalize hn:c.size=n at b
    cases b with
    | ro _ e2 c2 f2 hc2=>exact .ro m e2 c2 f2 (hc.down h hc2)
  | map es clock es' he=>
    generalize hz:(0:Nat)=z at b
    cases b with
    | map _ _ es2 he2=>exact .map es clock es2 (he.down h he2)
  | loop st pend fn n tm tmps params assign body d db x ht hd hx=>
    generalize hz:(0:Nat)=z at b
    cases b with
    | loop _ _ _ _ _ tmps2 _ _ _ _ db2 y ht2 hd2 hy2=>
      have:=(h d x hd).symm.trans hd2
      cases this
      exact .loop st pend fn n tm tmps2 params assign body d db2 x (ht.down h ht2) hd hy2
  | dfr=>generalize hz:(0:Nat)=z at b;cases b;exact .dfr
  | taken=>generalize hz:(0:Nat)=z at b;cases b;exact .taken

theorem OR.notDead {ρ : R} {n:Nat} {o:AO} {c:Obj} (a:OR ρ n o c):o ≠ .dead:=by cases a <;> intro e <;> cases e

theorem xTz {ρ ρ':R} {h h':H} {w w':World} (hr:HR ρ h w) (hr':HR ρ' h' w') (ex:Ext ρ h w ρ' h' w') (hq:h.clock≤h'.w) : ∀ id x,ρ id=some x → ρ' id=some x:=by
  intro id x hx
  rcases ex.le id x hx with h1|h1
  · exact h1
  · cases x with
    | none=>exact h1
    | some bn=>
      obtain ⟨b,n⟩:=bn
      obtain ⟨born,o,o',g1,_,g3⟩:=hr.live id b n hx
      have hb:=(ex.keep id born o g1).2 (Nat.lt_of_lt_of_le (hr.old id born o g1) hq)
      obtain ⟨b2,hd⟩:=hr'.dead id h1
      rw [hb] at hd
      cases hd
      exact absurd rfl g3.notDead

theorem xTy {ρ ρ':R} {h h':H} {w w':World} (hr:HR ρ h w) (ex:Ext ρ h w ρ' h' w') (hq:h.clock≤h'.w) {id:Pos} {born:Nat} {o:AO} (hg:T.get id h.objs=some (born,o)):T.get id h'.objs=some (born,o):=
  (ex.keep id born o hg).2 (Nat.lt_of_lt_of_le (hr.old id born o hg) hq)

theorem HR.marked {ρ : R} {h:H} {w:World} (hr:HR ρ h w):HR ρ (marked h) w:={ live:=hr.live,inj:=hr.inj,dead:=hr.dead,old:=hr.old }

theorem zTz {ρ ρ':R} {v:AV} {v':Value} (h:flat1 v=true) (r:VR ρ v v'):VR ρ' v v':=by
  cases r with
  | bool b=>exact .bool b
  | int k n=>exact .int k n
  | str s=>exact .str s
  | nilp=>exact .nilp
  | nils=>exact .nils
  | nilm=>exact .nilm
  | nilf=>exact .nilf
  | nili=>exact .nili
  | _=>cases h

theorem xJw {ρ ρ':R} : ∀ {v:List AV} {v':List Value},VL ρ v v'→flatL v=true→VL ρ' v v'
  | _,_,.nil,_=>.nil
  | _,_,.cons v vs v' vs' hv hvs,h=>by
    have h':(bif flat1 v then flatL vs else false)=true:=h
    cases hf:flat1 v with
    | false=>rw [hf] at h';cases h'
    | true=>rw [hf] at h';exact .cons v vs v' vs' (zTz hf hv) (xJw hvs h')

theorem flat2_down {ρ ρ':R} {v:AV} {v':Value} (h:flat2 v=true) (r:VR ρ v v'):VR ρ' v v':=by
  cases r with
  | agg cs cs' hc=>exact .agg cs cs' (xJw hc h)
  | fn f a c a' c' ha hc=>
    have h':(bif flatL a then flatL c else false)=true:=h
    cases hf:flatL a with
    | false=>rw [hf] at h';cases h'
    | true=>rw [hf] at h';exact .fn f a c a' c' (xJw ha hf) (xJw hc h')
  | bool b=>exact .bool b
  | int k n=>exact .int k n
  | str s=>exact .str s
  | nilp=>exact .nilp
  | nils=>exact .nils
  | nilm=>exact .nilm
  | nilf=>exact .nilf
  | nili=>exact .nili
  | _=>cases h
theorem flatL2_down {ρ ρ':R} : ∀ {v:List AV} {v':List Value},VL ρ v v'→flatL2 v=true→VL ρ' v v'
  | _,_,.nil,_=>.nil
  | _,_,.cons v vs v' vs' hv hvs,h=>by
    have h':(bif flat2 v then flatL2 vs else false)=true:=h
    cases hf:flat2 v with
    | false=>rw [hf] at h';cases h'
    | true=>rw [hf] at h';exact .cons v vs v' vs' (flat2_down hf hv) (flatL2_down hvs h')
theorem flat_down {ρ ρ':R} {v:AV} {v':Value} (h:flat v=true) (r:VR ρ v v'):VR ρ' v v':=by
  cases v with
  | tup cs=>
    cases r with
    | tup _ cs' hc=>exact .tup cs cs' (flatL2_down hc h)
  | _=>exact flat2_down h r

theorem Ext.unmarked {ρ ρ':R} {h:H} {w w':World} {objs:T (Nat × AO)} {next:Pos} {clock w1:Nat} (ex:Ext ρ (Ev.marked h) w ρ' ⟨objs,next,clock,w1⟩ w') :
    Ext ρ h w ρ' ⟨objs,next,clock,bif Nat.ble h.w w1 then h.w else w1⟩ w':=
  { le:=ex.le,newd:=ex.newd,rng:=ex.rng,wr:=ex.wr,frame:=ex.frame,size:=ex.size,frz:=ex.frz,os:=ex.os,out:=ex.out,clk:=ex.clk
    keep:=fun id born o hg=>by
      obtain ⟨k1,k2⟩:=ex.keep id born o hg
      refine ⟨k1,fun hb=>k2 ?_⟩
      have:(bif Nat.ble h.w w1 then h.w else w1)≤w1:=by
        cases hq:Nat.ble h.w w1 with
        | true=>exact Nat.le_of_ble_eq_true hq
        | false=>exact Nat.le_refl _
      exact Nat.lt_of_lt_of_le hb this
    wle:=by
      show (bif Nat.ble h.w w1 then h.w else w1)≤h.w
      cases hq:Nat.ble h.w w1 with
      | true=>exact Nat.le_refl _
      | false=>
        show w1≤h.w
        rcases Nat.le_total h.w w1 with k|k
        · rw [Nat.ble_eq_true_of_le k] at hq;cases hq
        · exact k }

theorem HR.remark {ρ : R} {w:World} {objs:T (Nat × AO)} {next:Pos} {clock w1 w2:Nat} (hr:HR ρ ⟨objs,next,clock,w1⟩ w):HR ρ ⟨objs,next,clock,w2⟩ w:={ live:=hr.live,inj:=hr.inj,dead:=hr.dead,old:=hr.old }

theorem pureCall_run {ρ ρ':R} {h h1 h':H} {w w':World} {v u:AV} {v':Value} (hr:HR ρ h w) (hr1:HR ρ' h1 w') (ex:Ext ρ (Ev.marked h) w ρ' h1 w') (hv:VR ρ' v v') (hp:pureCall h (.ok v h1) = .ok u h') :
    ∃ ρ2,u=v∧VR ρ2 u v'∧HR ρ2 h' w'∧Ext ρ h w ρ2 h' w':=by
  obtain ⟨objs,next,clock,w1⟩:=h1
  unfold pureCall at hp
  dsimp only at hp
  cases hc:(Nat.ble h.clock w1 && flat v) with
  | false=>
    have hp':RV.ok v ⟨objs,next,clock,bif Nat.ble h.w w1 then h.w else w1⟩ = .ok u h':=by
      rw [hc] at hp
      exact hp
    cases hp'
    exact ⟨ρ',rfl,hv,hr1.remark,ex.unmarked⟩
  | true=>
    have hp':RV.ok v h = .ok u h':=by
      rw [hc] at hp
      exact hp
    cases hp'
    rw [Bool.and_eq_true] at hc
    have hq:(Ev.marked h).clock≤w1:=Nat.le_of_ble_eq_true hc.1
    have same:=xTz hr.marked hr1 ex hq
    refine ⟨ρ,rfl,flat_down hc.2 hv,⟨?_,hr.inj,hr.dead,hr.old⟩,?_⟩
    · intro id b n hid
      obtain ⟨born,o,o',g1,_,g3⟩:=hr.live id b n hid
      obtain ⟨born2,o2,o2',k1,k2,k3⟩:=hr1.live id b n (same id _ hid)
      have hobj:=xTy hr.marked ex hq g1
      rw [hobj] at k1
      cases k1
      exact ⟨born,o,o2',g1,k2,g3.down same k3⟩
    · refine { Ext.refl (ρ:=ρ) (h:=h) (w:=w) with frame:=?_,size:=ex.size,frz:=ex.frz,os:=ex.os,out:=ex.out }
      exact ex.frame

end Go.Ev
end

section
namespace Go.Ev

def TgtOK (P:Program) (t:Tgt) (h:H) (v:AV) (h':H):Prop:=
  match t with
  | .fn g args=>∀ (ρ : R) (args':Array Value) (w:World),GR ρ → HR ρ h w→VL ρ args args'.toList → ∀ cs:List Frame,∃ ρ' v' w' fr,
      VR ρ' v v'∧HR ρ' h' w'∧Ext ρ h w ρ' h' w'∧Steps P (lone (Frame.enter P g args' .normal) cs w) (lone fr cs w')∧fr.fn=g∧fr.leaving P w' (.returned v')
  | .yld id args=>∀ (ρ : R) (args':Array Value) (w:World) (b:Nat) (x:Option (Nat × Nat)),GR ρ → HR ρ h w→VL ρ args args'.toList → ρ id=some x→(∀ c n,x=some (c,n)→c=b) →
      ∃ f tmps asg body,(Instr.yield b args').run P w = .ok (.round b f tmps asg body) w ∧ ∀ (c:Frame) (cs:List Frame),∃ ρ' v' w',
        VR ρ' v v'∧HR ρ' h' w'∧Ext ρ h w ρ' h' w'∧Steps P (lone (Fr f (some b) tmps [] [.code asg,.beginRound,.code body]) (c :: cs) w) (lone (c.finish v') cs w')

def CallOK (P:Program) (ih:Evs):Prop:=∀ t h v h',ih.call t h = .ok v h'→TgtOK P t h v h'

theorem callV_run {P:Program} {ih:Evs} (hi:CallOK P ih) {ρ : R} {h h':H} {w:World} {f v:AV} {f':Value} {args:List AV} {args':Array Value} (hg:GR ρ) (hr:HR ρ h w) (hf:VR ρ f f') (ha:VL ρ args args'.toList)
    (hc:callV P ih f args h = .ok v h') :
    (∃ g as,(do let d ← Deferred.ofValue f' args';invoke d.target d.args:Sem Next).run P w = .ok (.enter g as) w ∧
        ∀ (c:Frame) (cs:List Frame),∃ ρ' v' w',VR ρ' v v'∧HR ρ' h' w'∧Ext ρ h w ρ' h' w'∧Steps P (lone (Frame.enter P g as .normal) (c :: cs) w) (lone (c.finish v') cs w')) ∨
    (∃ b g tmps asg body,(do let d ← Deferred.ofValue f' args';invoke d.target d.args:Sem Next).run P w = .ok (.round b g tmps asg body) w ∧
        ∀ (c:Frame) (cs:List Frame),∃ ρ' v' w',VR ρ' v v'∧HR ρ' h' w'∧Ext ρ h w ρ' h' w'∧Steps P (lone (Fr g (some b) tmps [] [.code asg,.beginRound,.code body]) (c :: cs) w) (lone (c.finish v') cs w')):=by
  unfold callV at hc
  cases hf with
  | fn g a c a' c' h1 h2=>
    dsimp only at hc
    cases hp:plainB P g with
    | false=>rw [hp] at hc;cases hc
    | true=>
      rw [hp] at hc
      have ok:=hi _ _ _ _ hc
      dsimp only [TgtOK] at ok
      refine .inl ⟨g,a'++(args'++c'),?_,?_⟩
      · unfold plainB at hp
        cases hfn:P.funcs[g]? with
        | none=>rw [hfn] at hp;cases hp
        | some fn=>
          rw [hfn] at hp
          dsimp only at hp
          rw [Bool.and_eq_true] at hp
          have hn:(fn.name == "runtime.NumGoroutine")=false:=by
            cases hq:(fn.name == "runtime.NumGoroutine") with
            | false=>rfl
            | true=>have h2:=hp.2;rw [hq] at h2;cases h2
          have hb:fn.body.isNone=false:=by
            cases hq:fn.body with
            | none=>have h1:=hp.1;rw [hq] at h1;cases h1
            | some b=>rfl
          have hn' : ¬ fn.name = "runtime.NumGoroutine" := by simpa using hn
          have hb' : ¬ fn.body=none:=fun e=>by rw [e] at hb;cases hb
          simp [Deferred.ofValue,invoke,callFunc,hfn,hn',hb',Array.append_assoc]
      · intro c0 cs
        obtain ⟨ρ',v',w',fr,e1,e2,e3,e4,e5,e6⟩:=ok ρ (a'++(args'++c')) w hg hr (by simp only [Array.toList_append];exact h1.append (ha.append h2)) (c0 :: cs)
        exact ⟨ρ',v',w',e1,e2,e3,Steps.trans e4 (.one (step_leave_returned e6))⟩
  | yld id b x h1 h2=>
    dsimp only at hc
    have ok:=hi _ _ _ _ hc
    dsimp only [TgtOK] at ok
    obtain ⟨f,tmps,asg,body,e1,e2⟩:=ok ρ args' w b x hg hr ha h1 h2
    refine .inr ⟨b,f,tmps,asg,body,?_,e2⟩
    simp [Deferred.ofValue,invoke,e1]
  | _=>cases hc

theorem xJv {P:Program} {ih:Evs} (hi:CallOK P ih) {ρ : R} {h h':H} {w:World} {tm:M AV} {tmps:Array Value} {df:List Deferred} {o:Oper} {v:AV} (hg:GR ρ) (hr:HR ρ h w)
    (ho:EvOk ρ tm ⟨tmps,df⟩ o.op.operands.toList) (he:execE P ih tm o.type o.op h = .ok v h') {ops:Array Oper} {i:Nat} (hop:ops[i]? = some o) (hw:Region.wanted o (yielded ops tmps)=true)
    (fn:FuncId) (rd:Option Nat) (rest:List Nat) (k:List Item) (cs:List Frame) :
    ∃ ρ' v' w',VR ρ' v v'∧HR ρ' h' w'∧Ext ρ h w ρ' h' w' ∧
      Steps P (lone (Fr fn rd tmps df (.inRegion ops (i :: rest) :: k)) cs w) (lone (Fr fn rd (putA tmps o.dst v') df (.inRegion ops rest :: k)) cs w'):=by
  by_cases hcall : ∃ c,o.op = .call c
  · obtain ⟨c,hc⟩:=hcall
    have hd : ∀ d,o.op ≠ .defer d:=fun d e=>by rw [hc] at e;cases e
    have he':callE P ih tm o.type c h = .ok v h':=by rw [hc] at he;exact he
    rw [hc] at ho
    unfold callE at he'
    cases hl:evL tm c.args.toList with
    | none=>rw [hl] at he';cases he'
    | some args=>
      rw [hl] at he'
      dsimp only at he'
      have hargs:VL ρ args (c.args.map (⟨tmps,df⟩:Act).eval).toList:=by
        rw [Array.toList_map]
        exact EvOk.list (ho.mono fun x hx=>by simp [Op.operands,Call.operands];exact .inr (by simpa using hx)) hl
      cases hcal:c.callee with
      | builtin b=>
        rw [hcal] at he'
        obtain ⟨consts,hrun⟩ : ∃ consts,(execOp (⟨tmps,df⟩:Act).eval o).run P w=(Go.builtin b c.argTypes o.type consts (c.args.map (⟨tmps,df⟩:Act).eval)).run P w:=⟨_,by
          simp only [execOp,hc,resolve,hcal,pure_bind,invoke];rfl⟩
        obtain ⟨ρ',v',w',e1,e2,e3,e4⟩:=builtinE_run (P:=P) (consts:=consts) hr hargs he'
        rcases e1 with e1|⟨e1,rfl⟩
        · exact ⟨ρ',v',w',e2,e3,e4,xPy hop hw hd (hrun.trans e1)⟩
        · exact ⟨ρ',undef,w',e2,e3,e4,s_opUnit hop hw hd (hrun.trans e1)⟩
      | value f=>
        rw [hcal] at he'
        dsimp only at he'
        cases hf:evT tm f with
        | none=>rw [hf] at he';cases he'
        | some fv=>
          rw [hf] at he'
          have hfv:=ho f (by simp [Op.operands,Call.operands,hcal]) fv hf
          have hrun:(execOp (⟨tmps,df⟩:Act).eval o).run P w=(do let d ← Deferred.ofValue ((⟨tmps,df⟩:Act).eval f) (c.args.map (⟨tmps,df⟩:Act).eval);invoke d.target d.args:Sem Next).run P w:=by
            simp only [execOp,hc,resolve,hcal]
          rcases callV_run hi hg hr hfv hargs he' with ⟨g,as,e1,e2⟩|⟨b,g,tm2,asg,body,e1,e2⟩
          · obtain ⟨ρ',v',w',k1,k2,k3,k4⟩:=e2 (Fr fn rd tmps df (.inRegion ops (i :: rest) :: k)) cs
            rw [xHz hop] at k4
            exact ⟨ρ',v',w',k1,k2,k3,Steps.trans (s_opEnter hop hw hd (hrun.trans e1)) k4⟩
          · obtain ⟨ρ',v',w',k1,k2,k3,k4⟩:=e2 (Fr fn rd tmps df (.inRegion ops (i :: rest) :: k)) cs
            rw [xHz hop] at k4
            exact ⟨ρ',v',w',k1,k2,k3,Steps.trans (s_opRound hop hw hd (hrun.trans e1)) k4⟩
      | invoke r m=>rw [hcal] at he';cases he'
  · have hnc : ∀ c,o.op ≠ .call c:=fun c e=>hcall ⟨c,e⟩
    obtain ⟨ρ',v',w',e1,e2,e3,e4⟩:=execE_plain (P:=P) hr ho hnc he
    have hd : ∀ d,o.op ≠ .defer d:=fun d e=>by rw [e] at he;cases he
    rcases e1 with e1|⟨e1,rfl⟩
    · exact ⟨ρ',v',w',e2,e3,e4,xPy hop hw hd e1⟩
    · exact ⟨ρ',undef,w',e2,e3,e4,s_opUnit hop hw hd e1⟩

theorem TR.put {ρ ρ':R} (hle:R.le ρ ρ') {n:Nat} {tm tm':M AV} {tmps:Array Value} {d:Tmp} {v:AV} {v':Value} (ht:TR ρ n tm tmps) (hd:d<n) (hs:tm.set d v=some tm') (hv:VR ρ' v v') :
    TR ρ' n tm' (tmps.setIfInBounds d v'):=by
  obtain ⟨h1,h2,_⟩:=M.set_some hs
  refine ⟨by simpa using ht.1,fun i u hu=>?_⟩
  by_cases e:i=d
  · subst e
    rw [h1] at hu
    cases hu
    have:i<tmps.size:=by rw [ht.1];exact hd
    simp [Array.getD,this]
    exact hv
  · rw [h2 i e] at hu
    have:=(ht.2 i u hu).up hle
    have eq:(tmps.setIfInBounds d v').getD i undef=tmps.getD i undef:=by
      simp only [Array.getD_eq_getD_getElem?]
      rw [Array.getElem?_setIfInBounds_ne (Ne.symm e)]
    rw [eq]
    exact this

theorem putE_some {dst:Option Tmp} {v:AV} {fs:FS} {h:H} {k:FS→H→RF} {fs':FS} {h':H} (e:putE dst v fs h k = .ok fs' h') :
    (dst=none∧k fs h = .ok fs' h') ∨ ∃ d tm',dst=some d∧d<fs.n∧fs.tm.set d v=some tm'∧k ⟨fs.fn,fs.n,tm',fs.defs,fs.round⟩ h = .ok fs' h':=by
  obtain ⟨fn,n,tm,defs,round⟩:=fs
  cases dst with
  | none=>exact .inl ⟨rfl,e⟩
  | some d=>
    have e':(bif Nat.ble (Nat.succ d) n then Option.rec (motive:=fun _=>RF) .no (fun tm=>k ⟨fn,n,tm,defs,round⟩ h) (tm.set d v) else .no) = .ok fs' h':=e
    cases hb:Nat.ble (Nat.succ d) n with
    | false=>rw [hb] at e';cases e'
    | true=>
      rw [hb] at e'
      dsimp only [cond] at e'
      cases hs:tm.set d v with
      | none=>rw [hs] at e';cases e'
      | some tm'=>rw [hs] at e';exact .inr ⟨d,tm',rfl,Nat.le_of_ble_eq_true hb,hs,e'⟩

inductive DR (ρ : R):List Pos→List Deferred→Prop
  | nil:DR ρ [] []
  | cons (d:Pos) (ds:List Pos) (b:Nat) (dfs:List Deferred) (x:Option (Nat × Nat)) : ρ d=some x→(∀ c n,x=some (c,n)→c=b)→DR ρ ds dfs→DR ρ (d :: ds) ({ target:=.collected b,args:=#[] } :: dfs)
theorem DR.up {ρ ρ':R} (h:R.le ρ ρ') {ds:List Pos} {dfs:List Deferred} (r:DR ρ ds dfs):DR ρ' ds dfs:=by
  induction r with
  | nil=>exact .nil
  | cons d ds b dfs x hx hp _ ih=>obtain ⟨y,hy,hq⟩:=up1 (p:=fun c _=>c=b) h hx hp;exact .cons d ds b dfs y hy hq ih

inductive RdR (ρ : R):Option Pos→Option Nat→Prop
  | none:RdR ρ none none
  | some (l:Pos) (b:Nat) (x:Option (Nat × Nat)) : ρ l=some x→(∀ c n,x=some (c,n)→c=b)→RdR ρ (some l) (some b)
theorem RdR.up {ρ ρ':R} (h:R.le ρ ρ') {a:Option Pos} {b:Option Nat} (r:RdR ρ a b):RdR ρ' a b:=by
  cases r with
  | none=>exact .none
  | some l b x hx hp=>obtain ⟨y,hy,hq⟩:=up1 (p:=fun c _=>c=b) h hx hp;exact .some l b y hy hq

structure St (ρ : R) (fs:FS) (h:H) (rd:Option Nat) (tmps:Array Value) (df:List Deferred) (w:World):Prop where
  gr:GR ρ
  tr:TR ρ fs.n fs.tm tmps
  hr:HR ρ h w
  dr:DR ρ fs.defs df
  rd:RdR ρ fs.round rd

structure SameFS (fs fs':FS):Prop where
  fn:fs'.fn=fs.fn
  n:fs'.n=fs.n
  round:fs'.round=fs.round

theorem xOx {ρ : R} {n:Nat} {tm:M AV} {tmps:Array Value} {ops:Array Oper} {o:Oper} {b:Bool} (ht : ∀ j want oj d,o.guard=some (j,want)→ops[j]? = some oj→oj.dst=some d → ∀ v,tm.get d=some v→VR ρ v (tmps.getD d undef))
    (hn:tmps.size=n) (h:wantE ops tm o.guard=some b):Region.wanted o (yielded ops tmps)=b:=by
  unfold Region.wanted
  cases hg:o.guard with
  | none=>rw [hg] at h;cases h;rfl
  | some jw=>
    obtain ⟨j,want⟩:=jw
    rw [hg] at h
    have h':guardE ops tm j want=some b:=h
    unfold guardE at h'
    cases hj:ops[j]? with
    | none=>rw [hj] at h';cases h'
    | some oj=>
      rw [hj] at h'
      dsimp only at h'
      cases hd:oj.dst with
      | none=>rw [hd] at h';cases h'
      | some d=>
        rw [hd] at h'
        dsimp only at h'
        cases hv:tm.get d with
        | none=>rw [hv] at h';cases h'
        | some v=>
          rw [hv] at h'
          dsimp only at h'
          have hvr:=ht j want oj d hg hj hd v hv
          have hy:yielded ops tmps j=(match tmps[d]? with|some (.bool b)=>some b|_=>none):=by
            unfold yielded;rw [hj];simp only [Option.bind_some,hd];rfl
          dsimp only
          rw [hy]
          cases hb:asB v with
          | some bb=>
            rw [hb] at h'
            obtain rfl:=wBw hb
            cases h'
            have hget:tmps.getD d undef = .bool bb:=by
              cases hq:tmps.getD d undef with
              | bool b2=>rw [hq] at hvr;cases hvr;rfl
              | _=>rw [hq] at hvr;cases hvr
            have:tmps[d]? = some (.bool bb):=by
              rw [Array.getD_eq_getD_getElem?] at hget
              cases hq:tmps[d]? with
              | none=>rw [hq] at hget;cases hget
              | some u=>rw [hq] at hget;simp at hget;rw [hget]
            rw [this]
            rfl
          | none=>
            rw [hb] at h'
            cases h'
            have : ∀ b2,tmps[d]? ≠ some (.bool b2):=by
              intro b2 hq
              have hget:tmps.getD d undef = .bool b2:=by rw [Array.getD_eq_getD_getElem?,hq];rfl
              rw [hget] at hvr
              cases hvr
              cases hb
            cases hq:tmps[d]? with
            | none=>rfl
            | some u=>cases u <;> first|rfl|exact absurd hq (this _)

end Go.Ev
end

section
namespace Go.Ev

def AI (h:H):Prop:=∀ id born o,T.get id h.objs=some (born,o)→born<h.clock

structure AX (h h':H):Prop where
  old:AI h→AI h'
  clk:h.clock≤h'.clock
  keep : ∀ id born o,T.get id h.objs=some (born,o)→(∃ o',T.get id h'.objs=some (born,o'))∧(born<h'.w→T.get id h'.objs=some (born,o))
  wle:h'.w≤h.w

theorem AX.refl (h:H):AX h h:=⟨id,Nat.le_refl _,fun _ _ o e=>⟨⟨o,e⟩,fun _=>e⟩,Nat.le_refl _⟩

theorem AX.trans {a b c:H} (h:AX a b) (k:AX b c):AX a c where
  old:=fun e=>k.old (h.old e)
  clk:=Nat.le_trans h.clk k.clk
  keep:=fun id born o e=>by
    obtain ⟨⟨o',ho'⟩,hk⟩:=h.keep id born o e
    obtain ⟨⟨o2,ho2⟩,_⟩:=k.keep id born o' ho'
    refine ⟨⟨o2,ho2⟩,fun hb=>?_⟩
    have h2:=hk (Nat.lt_of_lt_of_le hb k.wle)
    exact (k.keep id born o h2).2 hb
  wle:=Nat.le_trans k.wle h.wle

def CallAX (ih:Evs):Prop:=∀ t h v h',ih.call t h = .ok v h'→AX h h'

theorem execE_pure {P:Program} {ih:Evs} {tm:M AV} {ty:TypeId} {op:Op} {v:AV} {h h':H} (ht:touches op=false) (e:execE P ih tm ty op h = .ok v h'):h'=h ∧ ∀ h2,execE P ih tm ty op h2 = .ok v h2:=by
  have ofs : ∀ {o:Option AV} {v:AV} {h h':H},RV.of o h = .ok v h'→h'=h ∧ ∀ h2,RV.of o h2 = .ok v h2:=by
    intro o v h h' e
    cases o with
    | none=>cases e
    | some u=>cases e;exact ⟨rfl,fun _=>rfl⟩
  have on1s : ∀ {o:Option AV} {f:AV→H→RV} {v:AV} {h h':H},(∀ u,f u h = .ok v h'→h'=h ∧ ∀ h2,f u h2 = .ok v h2)→on1 o (fun u=>f u h) = .ok v h'→h'=h ∧ ∀ h2,on1 o (fun u=>f u h2) = .ok v h2:=by
    intro o f v h h' k e
    cases o with
    | none=>cases e
    | some u=>exact k u e
  cases op with
  | move x=>exact ofs e
  | assign x=>exact ofs e
  | pick c a b=>exact ofs e
  | build t ps=>exact ofs e
  | nilCheck x=>exact on1s (f:=fun v h=>.of (nilCheckE v) h) (fun _ k=>ofs k) e
  | binOp op t x y yt=>exact on1s (f:=fun a h=>on1 (evT tm y) fun b=>.of (binE P op t x y a b) h) (fun a k=>on1s (f:=fun b h=>.of (binE P op t x y a b) h) (fun _ k=>ofs k) k) e
  | unOp op t x=>exact on1s (f:=fun a h=>.of (unE P op a) h) (fun _ k=>ofs k) e
  | convert s d x=>exact on1s (f:=fun a h=>.of (convE P s d a) h) (fun _ k=>ofs k) e
  | makeFunc f a c=>
    have e':makeFuncE tm f a c h = .ok v h':=e
    have g : ∀ h2,execE P ih tm ty (.makeFunc f a c) h2=makeFuncE tm f a c h2:=fun _=>rfl
    simp only [g]
    unfold makeFuncE at e' ⊢
    repeat' (split at e')
    all_goals first|cases e';done|(cases e';exact ⟨rfl,fun _=>by simp [*]⟩)
  | slice t x lo hi mx=>exact ofs e
  | fieldAddr s x f=>exact on1s (f:=fun v h=>.of (fieldAddrE P s v f) h) (fun _ k=>ofs k) e
  | field t x f=>exact on1s (f:=fun v h=>.of (fieldE P t v f) h) (fun _ k=>ofs k) e
  | indexAddr t x i=>exact on1s (f:=fun v h=>on1 (evT tm i) fun i=>.of (indexAddrE P t v i) h) (fun v k=>on1s (f:=fun i h=>.of (indexAddrE P t v i) h) (fun _ k=>ofs k) k) e
  | index t x i=>exact on1s (f:=fun v h=>on1 (evT tm i) fun i=>.of (indexE P t v i) h) (fun v k=>on1s (f:=fun i h=>.of (indexE P t v i) h) (fun _ k=>ofs k) k) e
  | extract t i=>exact on1s (f:=fun v h=>.of (extractE v i) h) (fun _ k=>ofs k) e
  | _=>cases ht

end Go.Ev
end

section
namespace Go.Ev

noncomputable def Rst (ρ : R) (h:H):R:=fun id=>match T.get id h.objs with
  | some _=>ρ id
  | none=>none

theorem zOx {ρ : R} {h:H} {id:Pos} {x:Option (Nat × Nat)} : Rst ρ h id=some x ↔ ρ id=some x ∧ ∃ p,T.get id h.objs=some p:=by
  unfold Rst
  cases hg:T.get id h.objs with
  | none=>simp
  | some p=>simp

def PutR (fs:FS) (dst:Option Tmp) (v:AV) (fs1:FS):Prop:=(dst=none∧fs1=fs) ∨ ∃ d tm',dst=some d∧d<fs.n∧fs.tm.set d v=some tm'∧fs1=⟨fs.fn,fs.n,tm',fs.defs,fs.round⟩

def reW (h h':H):H:=⟨h'.objs,h'.next,h'.clock,bif Nat.ble h.w h'.w then h.w else h'.w⟩

def LS (P:Program) (ih:Evs) (ops:Array Oper) (i:Nat) (fs:FS) (h:H) (fs1:FS) (h1:H):Prop:=
  ∃ o,ops[i]? = some o∧((wantE ops fs.tm o.guard=some false∧PutR fs o.dst (.tup []) fs1∧h1=h) ∨
    (wantE ops fs.tm o.guard=some true ∧ ∃ v h',execE P ih fs.tm o.type o.op (marked h) = .ok v h'∧(h.clock≤h'.w∨barOk (barOf ops (Region.before ops) o i) fs.tm o.op=true)∧h1=reW h h'∧PutR fs o.dst v fs1))

theorem opsD_chain {P:Program} {ih:Evs} {ops:Array Oper} {fs':FS} {h':H} : ∀ (l:List (Oper × Bar)) (i:Nat) (fs:FS) (h:H),(∀ k:Nat,l[k]? = (ops[i+k]?).map fun o=>(o,barOf ops (Region.before ops) o (i+k))) →
    opsD P ih ops l fs h = .ok fs' h' → ∃ (F:Nat→FS) (G:Nat→H),F i=fs∧G i=h∧F (i+l.length)=fs'∧G (i+l.length)=h' ∧ ∀ k,i≤k→k<i+l.length→LS P ih ops k (F k) (G k) (F (k+1)) (G (k+1))
  | [],i,fs,h,_,he=>by cases he;exact ⟨fun _=>fs',fun _=>h',rfl,rfl,rfl,rfl,fun k h1 h2=>by simp at h2;omega⟩
  | (o,bar) :: l,i,fs,h,hl,he=>by
    have h0:=hl 0
    simp at h0
    have hop : ∃ o',ops[i]? = some o'∧o'=o∧bar=barOf ops (Region.before ops) o i:=by
      cases hq:ops[i]? with
      | none=>rw [hq] at h0;simp at h0
      | some o'=>rw [hq] at h0;simp at h0;exact ⟨o',rfl,h0.1.symm,by rw [h0.2,h0.1]⟩
    obtain ⟨o',hop,rfl,rfl⟩:=hop
    have hl' : ∀ k:Nat,l[k]? = (ops[i+1+k]?).map fun o=>(o,barOf ops (Region.before ops) o (i+1+k)):=fun k=>by
      have:=hl (k+1)
      rw [List.getElem?_cons_succ] at this
      rw [this,show i+(k+1)=i+1+k from by omega]
    have he':oneD P ih ops (barOf ops (Region.before ops) o' i) o' fs h (opsD P ih ops l) = .ok fs' h':=he
    have cont : ∀ (v:AV) (h1:H),putE o'.dst v fs h1 (opsD P ih ops l) = .ok fs' h'→(∀ fs1,PutR fs o'.dst v fs1→LS P ih ops i fs h fs1 h1) →
        ∃ (F:Nat→FS) (G:Nat→H),F i=fs∧G i=h∧F (i+((o',barOf ops (Region.before ops) o' i) :: l).length)=fs'∧G (i+((o',barOf ops (Region.before ops) o' i) :: l).length)=h' ∧
          ∀ k,i≤k→k<i+((o',barOf ops (Region.before ops) o' i) :: l).length→LS P ih ops k (F k) (G k) (F (k+1)) (G (k+1)):=by
      intro v h1 hp hls
      have key : ∃ fs1,PutR fs o'.dst v fs1∧opsD P ih ops l fs1 h1 = .ok fs' h':=by
        rcases putE_some hp with ⟨a,b⟩|⟨d,tm',a,b,c,e⟩
        · exact ⟨fs,.inl ⟨a,rfl⟩,b⟩
        · exact ⟨_,.inr ⟨d,tm',a,b,c,rfl⟩,e⟩
      obtain ⟨fs1,k1,k2⟩:=key
      obtain ⟨F,G,f1,f2,f3,f4,f5⟩:=opsD_chain l (i+1) fs1 h1 hl' k2
      refine ⟨fun k=>if k=i then fs else F k,fun k=>if k=i then h else G k,if_pos rfl,if_pos rfl,?_,?_,fun k g1 g2=>?_⟩
      · simp only [List.length_cons]
        rw [if_neg (by omega),show i+(l.length+1)=i+1+l.length from by omega];exact f3
      · simp only [List.length_cons]
        rw [if_neg (by omega),show i+(l.length+1)=i+1+l.length from by omega];exact f4
      · simp only [List.length_cons] at g2
        by_cases hk:k=i
        · subst hk
          have e1 : ¬ k+1=k:=by omega
          simp only [if_true,if_neg e1,f1,f2]
          exact hls fs1 k1
        · have e1 : ¬ k+1=i:=by omega
          simp only [if_neg hk,if_neg e1]
          exact f5 k (by omega) (by omega)
    unfold oneD at he'
    cases hw:wantE ops fs.tm o'.guard with
    | none=>rw [hw] at he';cases he'
    | some wb=>
      rw [hw] at he'
      cases wb with
      | false=>exact cont (.tup []) h he' (fun fs1 hp=>⟨o',hop,.inl ⟨hw,hp,rfl⟩⟩)
      | true=>
        dsimp only at he'
        cases hx:execE P ih fs.tm o'.type o'.op (marked h) with
        | no=>rw [hx] at he';cases he'
        | ok v h1=>
          rw [hx] at he'
          obtain ⟨objs,next,clock,w1⟩:=h1
          cases hc:(Nat.ble h.clock w1 || barOk (barOf ops (Region.before ops) o' i) fs.tm o'.op) with
          | false=>
            have:unmark (barOf ops (Region.before ops) o' i) fs.tm o'.op h (.ok v ⟨objs,next,clock,w1⟩) = .no:=by
              unfold unmark;dsimp only;rw [hc];rfl
            rw [this] at he'
            cases he'
          | true=>
            have:unmark (barOf ops (Region.before ops) o' i) fs.tm o'.op h (.ok v ⟨objs,next,clock,w1⟩) = .ok v (reW h ⟨objs,next,clock,w1⟩):=by
              unfold unmark;dsimp only;rw [hc];rfl
            rw [this] at he'
            refine cont v _ he' (fun fs1 hp=>⟨o',hop,.inr ⟨hw,v,_,hx,?_,rfl,hp⟩⟩)
            rcases Bool.or_eq_true_iff.1 hc with h1|h1
            · exact .inl (Nat.le_of_ble_eq_true h1)
            · exact .inr h1

structure Static (ops:Array Oper):Prop where
  temps : ∀ (i j:Nat) oi oj,ops[i]? = some oi→ops[j]? = some oj→i<j→share ops oi oj=true→((Region.before ops).getD j 0).testBit i=true
  edges : ∀ (i:Nat) o e,ops[i]? = some o→e ∈ o.after→Region.binds .any e=true→e.on<i

theorem xCv {α : Type} {l:List α} {p : α × Nat→Bool} (h:l.zipIdx.all p=true) {i:Nat} {x : α} (hx:l[i]? = some x):p (x,i)=true:=by
  rw [List.all_eq_true] at h
  exact h (x,i) (by rw [List.mk_mem_zipIdx_iff_getElem?];exact hx)

theorem drawn_some {ops:Array Oper} {l:List (Oper × Bar)} (h:drawn ops=some l):Static ops∧l=withBars ops (Region.before ops):=by
  unfold drawn at h
  cases hc:(tempsOk ops (Region.before ops) && edgesOk ops) with
  | false=>rw [hc] at h;cases h
  | true=>
    rw [hc] at h
    cases h
    rw [Bool.and_eq_true] at hc
    refine ⟨⟨fun i j oi oj hi hj hlt hs=>?_,fun i o e hi he hb=>?_⟩,rfl⟩
    · have h1:=xCv (l:=ops.toList) hc.1 (i:=j) (x:=oj) (by simpa using hj)
      have h2:=xCv (l:=ops.toList) h1 (i:=i) (x:=oi) (by simpa using hi)
      dsimp only at h2
      have h3:Nat.ble (Nat.succ i) j=true:=Nat.ble_eq_true_of_le hlt
      rw [h3,hs] at h2
      simpa using h2
    · have h1:=xCv (l:=ops.toList) hc.2 (i:=i) (x:=o) (by simpa using hi)
      dsimp only at h1
      rw [List.all_eq_true] at h1
      have h2:=h1 e (by simpa using he)
      rw [hb] at h2
      exact Nat.le_of_ble_eq_true (by simpa using h2)

theorem withBars_get {ops:Array Oper} {b:Array Nat} (k:Nat):(withBars ops b)[k]? = (ops[k]?).map fun o=>(o,barOf ops b o k):=by
  unfold withBars
  rw [List.getElem?_map,List.getElem?_zipIdx]
  cases h:ops[k]? with
  | none=>simp [h]
  | some o=>simp [h]

def In (listed:Array Bool) (i:Nat):Prop:=listed.getD i false=true

def Closed (ops:Array Oper) (S:Nat→Prop):Prop:=∀ i o,S i→ops[i]? = some o → ∀ e ∈ o.after,Region.binds .any e=true→S e.on

theorem xRx {ops:Array Oper} {S:Nat→Prop} (hS:Closed ops S) : ∀ j i,S j→((Region.before ops).getD j 0).testBit i=true→S i:=by
  have key : ∀ (l:List Oper) (k:Nat) (acc:Array Nat),acc.size=k→(∀ j:Nat,l[j]? = ops[k+j]?)→(∀ j i,S j→(acc.getD j 0).testBit i=true→S i) →
      ∀ j i,S j→((l.foldl (fun (acc:Array Nat) (o:Oper)=>acc.push (o.after.foldl (fun s e=>if Region.binds .any e then s ||| 2 ^ e.on ||| acc.getD e.on 0 else s) 0)) acc).getD j 0).testBit i=true→S i:=by
    intro l
    induction l with
    | nil=>intro k acc _ _ hacc;exact hacc
    | cons o l ih=>
      intro k acc hk hl hacc
      simp only [List.foldl_cons]
      have hop:ops[k]? = some o:=by have:=hl 0;simp at this;exact this.symm
      refine ih (k+1) _ (by simp [hk]) (fun j=>by
        have:=hl (j+1)
        rw [List.getElem?_cons_succ] at this
        rw [this];congr 1;omega) ?_
      intro j i hj hb
      by_cases hjk:j<k
      · refine hacc j i hj ?_
        have:(acc.push (o.after.foldl (fun s e=>if Region.binds .any e then s ||| 2 ^ e.on ||| acc.getD e.on 0 else s) 0)).getD j 0=acc.getD j 0:=by
          simp only [Array.getD_eq_getD_getElem?]
          rw [Array.getElem?_push,if_neg (by omega)]
        rw [this] at hb
        exact hb
      · by_cases hjk2:j=k
        · subst hjk2
          have:(acc.push (o.after.foldl (fun s e=>if Region.binds .any e then s ||| 2 ^ e.on ||| acc.getD e.on 0 else s) 0)).getD j 0=o.after.foldl (fun s e=>if Region.binds .any e then s ||| 2 ^ e.on ||| acc.getD e.on 0 else s) 0:=by
            simp only [Array.getD_eq_getD_getElem?]
            rw [Array.getElem?_push,if_pos hk.symm]
            rfl
          rw [this] at hb
          have hdep:=hS j o hj hop
          rw [← Array.foldl_toList] at hb
          have inner : ∀ (es:List Edge) (s:Nat),(∀ e ∈ es,e ∈ o.after)→(s.testBit i=true→S i)→(es.foldl (fun s e=>if Region.binds .any e then s ||| 2 ^ e.on ||| acc.getD e.on 0 else s) s).testBit i=true→S i:=by
            intro es
            induction es with
            | nil=>intro s _ h hb;exact h hb
            | cons e es ih2=>
              intro s he hs hb
              simp only [List.foldl_cons] at hb
              refine ih2 _ (fun e' h'=>he e' (by simp [h'])) ?_ hb
              intro hb2
              cases hbd:Region.binds .any e with
              | false=>rw [hbd] at hb2;exact hs (by simpa using hb2)
              | true=>
                rw [hbd] at hb2
                simp only [if_true,Nat.testBit_or,Bool.or_eq_true] at hb2
                have hon:S e.on:=hdep e (he e (by simp)) hbd
                rcases hb2 with (h1|h1)|h1
                · exact hs h1
                · rw [Nat.testBit_two_pow] at h1
                  have:e.on=i:=by simpa using h1
                  exact this ▸ hon
                · exact hacc e.on i hon h1
          exact inner o.after.toList 0 (fun e he=>by simpa using he) (fun h=>by simp at h) hb
        · have:(acc.push (o.after.foldl (fun s e=>if Region.binds .any e then s ||| 2 ^ e.on ||| acc.getD e.on 0 else s) 0)).getD j 0=0:=by
            simp only [Array.getD_eq_getD_getElem?]
            rw [Array.getElem?_eq_none (by simp;omega)]
            rfl
          rw [this] at hb
          simp at hb
  intro j i hj hb
  unfold Region.before at hb
  rw [← Array.foldl_toList] at hb
  exact key ops.toList 0 #[] rfl (fun j=>by simp) (fun j i _ h=>by simp at h) j i hj hb

theorem before_ready {ops:Array Oper} {S:Nat→Prop} (hS:Closed ops S) {j:Nat} {o:Oper} (hop:ops[j]? = some o) (hr : ∀ e ∈ o.after,Region.binds .any e=true→S e.on) {i:Nat} (hij:i≠j)
    (hb:((Region.before ops).getD j 0).testBit i=true):S i:=by
  have hc:Closed ops (fun k=>S k∨k=j):=by
    intro k o' hk ho' e he hbd
    rcases hk with hk|rfl
    · exact .inl (hS k o' hk ho' e he hbd)
    · rw [hop] at ho';cases ho';exact .inl (hr e he hbd)
  rcases xRx hc j i (.inr rfl) hb with h|h
  · exact h
  · exact absurd h hij

theorem PutR.same {fs fs1:FS} {dst:Option Tmp} {v:AV} (h:PutR fs dst v fs1):fs1.fn=fs.fn∧fs1.n=fs.n∧fs1.defs=fs.defs∧fs1.round=fs.round:=by
  rcases h with ⟨_,rfl⟩|⟨_,_,_,_,_,rfl⟩ <;> exact ⟨rfl,rfl,rfl,rfl⟩
theorem PutR.get {fs fs1:FS} {dst:Option Tmp} {v:AV} (h:PutR fs dst v fs1) {t:Tmp} (ht:dst≠some t):fs1.tm.get t=fs.tm.get t:=by
  rcases h with ⟨_,rfl⟩|⟨d,tm',hd,_,hs,rfl⟩
  · rfl
  · exact (M.set_some hs).2.1 t (fun e=>ht (by rw [hd,e]))
theorem PutR.here {fs fs1:FS} {t:Tmp} {v:AV} (h:PutR fs (some t) v fs1):t<fs.n∧fs1.tm.get t=some v:=by
  rcases h with ⟨h,_⟩|⟨d,tm',hd,hlt,hs,rfl⟩
  · cases h
  · cases hd;exact ⟨hlt,(M.set_some hs).1⟩

end Go.Ev
end

section
namespace Go.Ev

def ValGood (P:Program) (s:Sem Next) (ρ : R) (w:World) (v:AV):Prop:=∃ v',s.run P w = .ok (.value v') w∧VR ρ v v'

theorem Pur.val {P:Program} {s:Sem Value} {ρ : R} {w:World} {v:AV} (p:Pur P s ρ w v):ValGood P (do pure (.value (← s))) ρ w v:=by
  obtain ⟨v',h1,h2⟩:=p
  exact ⟨v',by rw [Sem.run_bind,h1];rfl,h2⟩

theorem execE_val {P:Program} {ih:Evs} {ρ : R} {h h':H} {w:World} {tm:M AV} {a:Act} {o:Oper} {v:AV} (ho:EvOk ρ tm a o.op.operands.toList) (ht:touches o.op=false)
    (he:execE P ih tm o.type o.op h = .ok v h'):ValGood P (execOp a.eval o) ρ w v:=by
  obtain ⟨dst,op,ty,pos,after,guard⟩:=o
  dsimp only at he ho ht
  have e1 : ∀ x,x ∈ op.operands.toList → ∀ u,evT tm x=some u→VR ρ u (a.eval x):=ho
  cases op with
  | move x=>obtain ⟨k,rfl⟩:=zPz he;exact ⟨a.eval x,rfl,e1 x (by simp [Op.operands]) v k⟩
  | assign x=>obtain ⟨k,rfl⟩:=zPz he;exact ⟨a.eval x,rfl,e1 x (by simp [Op.operands]) v k⟩
  | pick c x y=>
    obtain ⟨k,rfl⟩:=zPz he
    unfold pickE at k
    cases hc:evT tm c with
    | none=>rw [hc] at k;cases k
    | some cv=>
      rw [hc] at k
      dsimp only at k
      cases hb:asB cv with
      | none=>rw [hb] at k;cases k
      | some t=>
        rw [hb] at k
        obtain rfl:=wBw hb
        have hcv:=e1 c (by simp [Op.operands]) _ hc
        cases hac:a.eval c with
        | bool t'=>
          rw [hac] at hcv
          cases hcv
          cases t with
          | true=>exact ⟨a.eval x,by simp [execOp,hac,asBool],e1 x (by simp [Op.operands]) v k⟩
          | false=>exact ⟨a.eval y,by simp [execOp,hac,asBool],e1 y (by simp [Op.operands]) v k⟩
        | _=>rw [hac] at hcv;cases hcv
  | build t ps=>
    obtain ⟨k,rfl⟩:=zPz he
    unfold buildO at k
    cases hp:evParts tm ps.toList with
    | none=>rw [hp] at k;cases k
    | some parts=>
      rw [hp] at k
      have hpl:PL ρ parts (ps.map fun p=>(p.1,a.eval p.2)).toList:=by
        rw [Array.toList_map]
        exact EvOk.parts (fun x hx=>e1 x (by simpa [Op.operands] using hx)) hp
      exact (buildE_run (P:=P) hpl k).val
  | nilCheck x=>
    obtain ⟨u,k1,k2⟩:=zMz he
    obtain ⟨k,rfl⟩:=zPz k2
    have hu:=e1 x (by simp [Op.operands]) u k1
    have hx : ∃ q,a.eval x=q:=⟨_,rfl⟩
    obtain ⟨q,hq⟩:=hx
    rw [hq] at hu
    cases hu with
    | ptr id off b y g1 g2=>cases k;exact ⟨_,by simp only [execOp,hq];rfl,.ptr id off b y g1 g2⟩
    | fn f a1 c1 a2 c2 g1 g2=>cases k;exact ⟨_,by simp only [execOp,hq];rfl,.fn f a1 c1 a2 c2 g1 g2⟩
    | yld id b y g1 g2=>cases k;exact ⟨_,by simp only [execOp,hq];rfl,.yld id b y g1 g2⟩
    | _=>cases k
  | binOp op t x y yt=>
    obtain ⟨u,k1,k2⟩:=zMz he
    obtain ⟨u2,k3,k4⟩:=zMz k2
    obtain ⟨k,rfl⟩:=zPz k4
    exact (binE_run (P:=P) (e1 x (by simp [Op.operands]) u k1) (e1 y (by simp [Op.operands]) u2 k3) k).val
  | unOp op t x=>
    obtain ⟨u,k1,k2⟩:=zMz he
    obtain ⟨k,rfl⟩:=zPz k2
    unfold unE at k
    cases hc:conc1 u with
    | none=>rw [hc] at k;cases k
    | some uv=>
      rw [hc] at k
      have hu:=conc1_eq hc (e1 x (by simp [Op.operands]) u k1)
      have p:Pur P (Op.unary op (a.eval x)) ρ w v:=by rw [hu];exact yTv k w
      exact p.val
  | convert s d x=>
    obtain ⟨u,k1,k2⟩:=zMz he
    obtain ⟨k,rfl⟩:=zPz k2
    have hu:=e1 x (by simp [Op.operands]) u k1
    cases u with
    | int ik m=>
      have hx : ∃ q,a.eval x=q:=⟨_,rfl⟩
      obtain ⟨q,hq⟩:=hx
      rw [hq] at hu
      cases hu
      unfold convE at k
      dsimp only at k
      cases hd:P.underlying d with
      | none=>rw [hd] at k;cases k
      | some dd=>
        rw [hd] at k
        cases dd with
        | int kk=>
          have p:Pur P (convert s d (a.eval x)) ρ w v:=by rw [hq];exact yTv k w
          exact p.val
        | _=>cases k
    | _=>cases k
  | makeFunc f first cap=>
    have he':makeFuncE tm f first cap h = .ok v h':=he
    unfold makeFuncE at he'
    cases f with
    | func f=>
      dsimp only at he'
      cases h1:evL tm first.toList with
      | none=>rw [h1] at he';cases he'
      | some l1=>
        cases h2:evL tm cap.toList with
        | none=>rw [h1,h2] at he';cases he'
        | some l2=>
          rw [h1,h2] at he'
          cases he'
          have g1:VL ρ l1 (first.map a.eval).toList:=by
            rw [Array.toList_map];exact EvOk.list (fun x hx=>e1 x (by simp [Op.operands];exact .inl (by simpa using hx))) h1
          have g2:VL ρ l2 (cap.map a.eval).toList:=by
            rw [Array.toList_map];exact EvOk.list (fun x hx=>e1 x (by simp [Op.operands];exact .inr (by simpa using hx))) h2
          exact ⟨_,rfl,.fn f l1 l2 _ _ g1 g2⟩
    | _=>cases he'
  | slice t x lo hi mx=>
    obtain ⟨k,rfl⟩:=zPz he
    unfold slicesE at k
    cases h1:evT tm x with
    | none=>rw [h1] at k;cases k
    | some xv=>
      cases h2:optNat tm lo with
      | none=>rw [h1,h2] at k;cases k
      | some l2=>
        cases h3:optNat tm hi with
        | none=>rw [h1,h2,h3] at k;cases k
        | some l3=>
          cases h4:optNat tm mx with
          | none=>rw [h1,h2,h3,h4] at k;cases k
          | some l4=>
            rw [h1,h2,h3,h4] at k
            have b2:=EvOk.opt (ρ:=ρ) (a:=a) (fun y hy=>e1 y (by simp [Op.operands] at hy ⊢;simp [hy])) h2
            have b3:=EvOk.opt (ρ:=ρ) (a:=a) (fun y hy=>e1 y (by simp [Op.operands] at hy ⊢;simp [hy])) h3
            have b4:=EvOk.opt (ρ:=ρ) (a:=a) (fun y hy=>e1 y (by simp [Op.operands] at hy ⊢;simp [hy])) h4
            exact (sliceE_run (P:=P) ((e1 x (by simp [Op.operands]) xv h1).reszT t) b2 b3 b4 k).val
  | fieldAddr s x f=>obtain ⟨u,k1,k2⟩:=zMz he;obtain ⟨k,rfl⟩:=zPz k2;exact (xLv (P:=P) (e1 x (by simp [Op.operands]) u k1) k).val
  | field t x f=>obtain ⟨u,k1,k2⟩:=zMz he;obtain ⟨k,rfl⟩:=zPz k2;exact (fieldE_run (P:=P) (e1 x (by simp [Op.operands]) u k1) k).val
  | indexAddr t x i=>
    obtain ⟨u,k1,k2⟩:=zMz he
    obtain ⟨u2,k3,k4⟩:=zMz k2
    obtain ⟨k,rfl⟩:=zPz k4
    exact (xLw (P:=P) (e1 x (by simp [Op.operands]) u k1) (e1 i (by simp [Op.operands]) u2 k3) k).val
  | index t x i=>
    obtain ⟨u,k1,k2⟩:=zMz he
    obtain ⟨u2,k3,k4⟩:=zMz k2
    obtain ⟨k,rfl⟩:=zPz k4
    exact (indexE_run (P:=P) (e1 x (by simp [Op.operands]) u k1) (e1 i (by simp [Op.operands]) u2 k3) k).val
  | extract t i=>
    obtain ⟨u,k1,k2⟩:=zMz he
    obtain ⟨k,rfl⟩:=zPz k2
    unfold extractE at k
    cases ht:asTup u with
    | none=>rw [ht] at k;cases k
    | some vs=>
      rw [ht] at k
      dsimp only at k
      rw [xGv] at k
      obtain rfl:=asTup_some ht
      have hu:=e1 t (by simp [Op.operands]) _ k1
      obtain ⟨q,hq⟩ : ∃ q,a.eval t=q:=⟨_,rfl⟩
      rw [hq] at hu
      cases hu with
      | tup _ cs' hc=>
        obtain ⟨v',g1,g2⟩:=hc.get k
        have g1':cs'[i]? = some v':=by simpa using g1
        have p:Pur P (Instr.extract (a.eval t) i) ρ w v:=by rw [hq];exact ⟨v',by simp [Instr.extract,g1'],g2⟩
        exact p.val
  | _=>cases ht

theorem loadE_same {P:Program} {t:TypeId} {u:AV} {id:Pos} {off:Nat} (hp:asPtr u=some (id,off)) {h h2:H} (hs:T.get id h.objs=T.get id h2.objs):loadE P t u h=loadE P t u h2:=by
  have hg:getObj id h=getObj id h2:=by
    show (Option.rec (motive:=fun _=>Option AO) none (fun bo:Nat × AO=>some bo.2) (T.get id h.objs))=(Option.rec (motive:=fun _=>Option AO) none (fun bo:Nat × AO=>some bo.2) (T.get id h2.objs))
    rw [hs]
  unfold loadE loadAgg load1 readCells
  rw [hp]
  dsimp only
  rw [hg]

theorem xMw {id:Pos} {o:AO} {h h':H} (e:setObj id o h=some h') {j:Pos} (hj:j≠id):T.get j h'.objs=T.get j h.objs:=by
  obtain ⟨born,o0,hg,rfl⟩:=xMx e
  exact T.get_set_ne _ _ _ _ hj

theorem storeE_else {P:Program} {t:TypeId} {a v:AV} {h h':H} (e:storeE P t a v h=some h') {id:Pos} {off:Nat} (hp:asPtr a=some (id,off)) {j:Pos} (hj:j≠id):T.get j h'.objs=T.get j h.objs:=by
  unfold storeE at e
  rw [hp] at e
  dsimp only at e
  unfold storeCs storeAll store1 writeCells cond at e
  repeat' (split at e)
  all_goals first|cases e;done|exact xMw e hj

theorem barrier_spec {ops:Array Oper} {b:Array Nat} {k:Nat} (h:barrier ops b k=true) {i:Nat} {oi:Oper} (hi:ops[i]? = some oi) (ht:touches oi.op=true) (hne:i≠k):ordered b i k=true:=by
  have h1:=xCv (l:=ops.toList) h (i:=i) (x:=oi) (by simpa using hi)
  dsimp only at h1
  have h2:Nat.beq i k=false:=by
    cases hb:Nat.beq i k with
    | false=>rfl
    | true=>exact absurd (Nat.eq_of_beq_eq_true hb) hne
  rw [ht,h2] at h1
  simpa using h1

theorem xDv {ops:Array Oper} {b:Array Nat} {k:Nat} : ∀ {l:List (Oper × Nat)} {ts:List Tmp},softList ops b k l=some ts → ∀ oi i,(oi,i) ∈ l→touches oi.op=true→i≠k →
    ordered b i k=true∨(i<k ∧ ∃ ty a,oi.op = .load ty (.tmp a)∧unwritten ops i a=true∧a ∈ ts)
  | [],_,_,_,_,hm,_,_=>by cases hm
  | (o,j) :: rest,ts,h,oi,i,hm,ht,hne=>by
    unfold softList at h
    cases hr:softList ops b k rest with
    | none=>rw [hr] at h;cases h
    | some l=>
      rw [hr] at h
      dsimp only at h
      have ih:=xDv hr oi i
      cases hc:(!touches o.op || Nat.beq j k || ordered b j k) with
      | true=>
        rw [hc] at h
        cases h
        rcases List.mem_cons.1 hm with e|e
        · cases e
          have h2:Nat.beq j k=false:=by
            cases hb:Nat.beq j k with
            | false=>rfl
            | true=>exact absurd (Nat.eq_of_beq_eq_true hb) hne
          rw [ht,h2] at hc
          exact .inl (by simpa using hc)
        · exact ih e ht hne
      | false=>
        rw [hc] at h
        dsimp only [cond] at h
        split at h
        · rename_i ty a hop
          cases hq:(Nat.ble (Nat.succ j) k && unwritten ops j a) with
          | false=>rw [hq] at h;cases h
          | true=>
            rw [hq] at h
            cases h
            rw [Bool.and_eq_true] at hq
            rcases List.mem_cons.1 hm with e|e
            · cases e
              exact .inr ⟨Nat.le_of_ble_eq_true hq.1,ty,a,hop,hq.2,List.mem_cons_self⟩
            · rcases ih e ht hne with h1|⟨h1,ty2,a2,h2,h3,h4⟩
              · exact .inl h1
              · exact .inr ⟨h1,ty2,a2,h2,h3,List.mem_cons_of_mem _ h4⟩
        · cases h

theorem xCw {tm:M AV} {id:Pos} : ∀ {l:List Tmp},apartFrom tm id l=true → ∀ a ∈ l,∃ u id' off,tm.get a=some u∧asPtr u=some (id',off)∧id'≠id
  | [],_,_,hm=>by cases hm
  | t :: ts,h,a,hm=>by
    unfold apartFrom at h
    cases hg:tm.get t with
    | none=>rw [hg] at h;cases h
    | some u=>
      rw [hg] at h
      dsimp only at h
      cases hp:asPtr u with
      | none=>rw [hp] at h;cases h
      | some x=>
        obtain ⟨id',off⟩:=x
        rw [hp] at h
        dsimp only at h
        by_cases he:id'=id
        · rw [decide_eq_true he] at h;cases h
        · rw [decide_eq_false he] at h
          rcases List.mem_cons.1 hm with rfl|e
          · exact ⟨u,id',off,hg,hp,he⟩
          · exact xCw h a e

theorem unwritten_spec {ops:Array Oper} {i:Nat} {a:Tmp} (h:unwritten ops i a=true) {k:Nat} {o:Oper} (hk:ops[k]? = some o) (hik:i≤k):o.dst≠some a:=by
  have h1:=xCv (l:=ops.toList) h (i:=k) (x:=o) (by simpa using hk)
  dsimp only at h1
  rw [Nat.ble_eq_true_of_le hik] at h1
  intro e
  rw [e] at h1
  have:sameDst (some a) (some a)=true:=Nat.beq_refl a
  rw [this] at h1
  cases h1

def Hits (tm:M AV) (op:Op) (id:Pos):Prop:=
  (∃ t x y v off,op = .store t x y∧evT tm x=some v∧asPtr v=some (id,off)) ∨ ∃ c x off len cap esz,op = .call c∧c.callee = .builtin .append∧evL tm c.args.toList=some [.sl id off len cap esz,x]

theorem wBx {ops:Array Oper} {b:Array Nat} {k:Nat} {ok:Oper} {tm:M AV} (h:barOk (barOf ops b ok k) tm ok.op=true) {i:Nat} {oi:Oper} (hi:ops[i]? = some oi) (ht:touches oi.op=true) (hne:i≠k) :
    ordered b i k=true∨(i<k ∧ ∃ ty a,oi.op = .load ty (.tmp a)∧unwritten ops i a=true ∧ ∃ id u id' off',Hits tm ok.op id∧tm.get a=some u∧asPtr u=some (id',off')∧id'≠id):=by
  unfold barOf at h
  cases hb:barrier ops b k with
  | true=>exact .inl (barrier_spec hb hi ht hne)
  | false=>
    rw [hb] at h
    dsimp only [cond] at h
    split at h
    · rename_i t x y hop
      split at h
      · rename_i l hl
        rcases xDv hl oi i (by rw [List.mk_mem_zipIdx_iff_getElem?];simpa using hi) ht hne with h1|⟨h1,ty,a,h2,h3,h4⟩
        · exact .inl h1
        · refine .inr ⟨h1,ty,a,h2,h3,?_⟩
          unfold barOk at h
          rw [hop] at h
          dsimp only at h
          cases hv:evT tm x with
          | none=>rw [hv] at h;cases h
          | some v=>
            rw [hv] at h
            dsimp only at h
            cases hp:asPtr v with
            | none=>rw [hp] at h;cases h
            | some p=>
              obtain ⟨id,off⟩:=p
              rw [hp] at h
              obtain ⟨u,id',off',g1,g2,g3⟩:=xCw h a h4
              exact ⟨id,u,id',off',.inl ⟨t,x,y,v,off,hop,hv,hp⟩,g1,g2,g3⟩
      · cases h
    · rename_i c hop
      split at h
      · rename_i hcal
        split at h
        · rename_i l hl
          rcases xDv hl oi i (by rw [List.mk_mem_zipIdx_iff_getElem?];simpa using hi) ht hne with h1|⟨h1,ty,a,h2,h3,h4⟩
          · exact .inl h1
          · refine .inr ⟨h1,ty,a,h2,h3,?_⟩
            unfold barOk at h
            rw [hop] at h
            dsimp only at h
            rw [hcal] at h
            dsimp only at h
            split at h
            · rename_i id off len cap esz x hargs
              obtain ⟨u,id',off',g1,g2,g3⟩:=xCw h a h4
              exact ⟨id,u,id',off',.inr ⟨c,x,off,len,cap,esz,hop,hcal,hargs⟩,g1,g2,g3⟩
            · cases h
        · cases h
      · cases h
    · cases h

theorem newObj_else {o:AO} {h h':H} {id:Pos} (e:newObj o h=some (id,h')) {j:Pos} {p:Nat × AO} (hp:T.get j h.objs=some p):T.get j h'.objs=some p:=by
  obtain ⟨rfl,hn,rfl⟩:=yUz e
  have hne:j≠h.next:=fun e2=>by subst e2;rw [hn] at hp;cases hp
  show T.get j (T.set _ h.next h.objs)=some p
  rw [T.get_set_ne _ _ _ _ hne];exact hp
theorem growE_else {P:Program} {e need size:Nat} {cs:List AV} {h h':H} {v:AV} (g:growE P e need size cs h = .ok v h') {j:Pos} {p:Nat × AO} (hp:T.get j h.objs=some p):T.get j h'.objs=some p:=by
  unfold growE cond at g
  repeat' (split at g)
  all_goals first
    | (cases g;done)
    | (rename_i hn;cases g;exact newObj_else hn hp)
theorem writeCells_else {id:Pos} {off:Nat} {vs:List AV} {h h':H} (e:writeCells id off vs h=some h') {j:Pos} (hj:j≠id):T.get j h'.objs=T.get j h.objs:=by
  unfold writeCells cond at e
  repeat' (split at e)
  all_goals first|(cases e;done)|exact xMw e hj
theorem appendSome_else {P:Program} {e size n:Nat} {new:List AV} {id:Pos} {off len esz:Nat} {cap:Option Nat} {h h':H} {v:AV} (g:appendSome P e size n new (.sl id off len cap esz) h = .ok v h') {j:Pos} (hj:j≠id) {p:Nat × AO} (hp:T.get j h.objs=some p):T.get j h'.objs=some p:=by
  cases cap with
  | some c=>
    unfold appendSome cond at g
    dsimp only at g
    split at g
    · split at g
      · split at g
        · rename_i hw
          rw [zLw] at g
          cases g
          rw [writeCells_else hw hj];exact hp
        · cases g
      · split at g
        · rw [zLw] at g
          exact growE_else g hp
        · cases g
    · cases g
  | none=>
    unfold appendSome cond at g
    dsimp only at g
    repeat' (split at g)
    all_goals first
      | (cases g;done)
      | (rename_i hs;rw [zLw] at g;refine growE_else g ?_;rw [xMw hs hj];exact hp)
theorem appendE_else {P:Program} {t:TypeId} {x:AV} {id:Pos} {off len esz:Nat} {cap:Option Nat} {h h':H} {v:AV} (g:appendE P t (.sl id off len cap esz) x h = .ok v h') {j:Pos} (hj:j≠id) {p:Nat × AO} (hp:T.get j h.objs=some p):T.get j h'.objs=some p:=by
  unfold appendE cond at g
  repeat' (split at g)
  all_goals first
    | (cases g;done)
    | exact appendSome_else g hj hp
    | (cases g;exact hp)
theorem resz_sl {P:Program} {t:TypeId} {id:Pos} {off len esz:Nat} {cap:Option Nat} : ∃ e2,reszT P t (.sl id off len cap esz) = .sl id off len cap e2:=by
  unfold reszT
  cases P.underlying t with
  | none=>exact ⟨_,rfl⟩
  | some d=>cases d with
    | slice e=>
      dsimp only
      cases sizeE P e with
      | none=>exact ⟨_,rfl⟩
      | some n=>cases cap <;> exact ⟨_,rfl⟩
    | _=>exact ⟨_,rfl⟩
theorem hits_else {P:Program} {ih:Evs} {tm:M AV} {ty:TypeId} {op:Op} {id:Pos} (hh:Hits tm op id) {h h':H} {v:AV} (hx:execE P ih tm ty op h = .ok v h') {j:Pos} (hj:j≠id) {p:Nat × AO} (hp:T.get j h.objs=some p):T.get j h'.objs=some p:=by
  rcases hh with ⟨t,x,y,av,off,rfl,g2,g3⟩|⟨c,x,off,len,cap,esz,rfl,hcal,hargs⟩
  · obtain ⟨u1,e1,e2⟩:=zMz hx
    rw [g2] at e1
    cases e1
    obtain ⟨u2,e3,e4⟩:=zMz e2
    obtain ⟨e5,_⟩:=done_some e4
    rw [storeE_else e5 g3 hj];exact hp
  · have hx':callE P ih tm ty c h = .ok v h':=hx
    unfold callE at hx'
    rw [hargs] at hx'
    dsimp only at hx'
    rw [hcal] at hx'
    dsimp only at hx'
    generalize c.argTypes.toList=ats at hx'
    match ats,hx' with
    | [],hx'=>cases hx'
    | [_],hx'=>cases hx'
    | [t,u],hx'=>
      have q:(bif notInt P u then appendE P t (reszT P t (.sl id off len cap esz)) (reszT P t x) h else .no) = .ok v h':=hx'
      obtain ⟨e2,he⟩:=resz_sl (P:=P) (t:=t) (id:=id) (off:=off) (len:=len) (esz:=esz) (cap:=cap)
      rw [he] at q
      cases hn:notInt P u with
      | false=>rw [hn] at q;cases q
      | true=>rw [hn] at q;exact appendE_else q hj hp
    | _ :: _ :: _ :: _,hx'=>cases hx'

end Go.Ev
end

section
namespace Go.Ev

def Has (h:H) (id:Pos):Prop:=∃ p,T.get id h.objs=some p
def Sub (h h2:H):Prop:=∀ id p,T.get id h.objs=some p→T.get id h2.objs=some p

noncomputable def Mrg (ρ ρi:R) (hm h':H):R:=fun id=>match T.get id hm.objs,T.get id h'.objs with
  | none,some _=>ρi id
  | _,_=>ρ id

theorem Mrg_new {ρ ρi:R} {hm h':H} {id:Pos} (h1:T.get id hm.objs=none) (h2:Has h' id):Mrg ρ ρi hm h' id = ρi id:=by
  obtain ⟨p,h2⟩:=h2
  unfold Mrg;rw [h1,h2]
theorem Mrg_old {ρ ρi:R} {hm h':H} {id:Pos} (h1:T.get id hm.objs=none→T.get id h'.objs=none):Mrg ρ ρi hm h' id = ρ id:=by
  unfold Mrg
  cases ha:T.get id hm.objs with
  | none=>rw [h1 ha]
  | some p=>rfl

theorem xTv {h:H} {id:Pos} (hn : ¬ Has h id):T.get id h.objs=none:=by
  cases hg:T.get id h.objs with
  | none=>rfl
  | some p=>exact absurd ⟨p,hg⟩ hn

theorem HR.has {ρ : R} {h:H} {w:World} (hr:HR ρ h w) {id:Pos} {x:Option (Nat × Nat)} (hx : ρ id=some x):Has h id:=by
  cases hg:T.get id h.objs with
  | none=>rw [hr.fresh hg] at hx;cases hx
  | some p=>exact ⟨p,hg⟩

section
variable {ρ ρi:R} {hm h':H} {w w':World}

structure QS (ρ ρi:R) (hm h':H) (w w':World):Prop where
  hrm:HR (Rst ρ hm) hm w
  hri:HR ρi h' w'
  ex:Ext (Rst ρ hm) hm w ρi h' w'
  hq:hm.clock≤h'.w
  fresh : ∀ id,Has h' id→T.get id hm.objs=none → ρ id=none

theorem QS.f1 (q:QS ρ ρi hm h' w w') : ∀ id x,Rst ρ hm id=some x → ρi id=some x:=xTz q.hrm q.hri q.ex q.hq
theorem QS.f2 (q:QS ρ ρi hm h' w w'):Sub hm h':=fun id p hp=>by
  obtain ⟨born,o⟩:=p
  exact xTy q.hrm q.ex q.hq hp
theorem QS.f3 (q:QS ρ ρi hm h' w w') {id:Pos} {x:Option (Nat × Nat)} (h : ρ id=some x):Mrg ρ ρi hm h' id=some x:=by
  rw [Mrg_old]
  · exact h
  · intro hn
    cases hg:T.get id h'.objs with
    | none=>rfl
    | some p=>rw [q.fresh id ⟨p,hg⟩ hn] at h;cases h
theorem QS.f4 (q:QS ρ ρi hm h' w w') {id:Pos} {x:Option (Nat × Nat)} (h : ρi id=some x):Mrg ρ ρi hm h' id=some x:=by
  by_cases hm':Has hm id
  · cases hr:Rst ρ hm id with
    | none=>
      rcases q.ex.newd id hr with h1|h1
      · rw [h1] at h;cases h
      · obtain ⟨p,hp⟩:=hm';rw [h1] at hp;cases hp
    | some y=>
      have h1:=q.f1 id y hr
      rw [h1] at h
      cases h
      exact q.f3 (zOx.1 hr).1
  · rw [Mrg_new (xTv hm') (q.hri.has h)];exact h
theorem QS.f6 (q:QS ρ ρi hm h' w w') {id:Pos} {x:Option (Nat × Nat)} (h:Mrg ρ ρi hm h' id=some x):(T.get id hm.objs=none∧Has h' id ∧ ρi id=some x) ∨ ρ id=some x:=by
  by_cases hm':Has hm id
  · rw [Mrg_old] at h
    · exact .inr h
    · intro hn;obtain ⟨p,hp⟩:=hm';rw [hn] at hp;cases hp
  · by_cases hh:Has h' id
    · rw [Mrg_new (xTv hm') hh] at h;exact .inl ⟨xTv hm',hh,h⟩
    · rw [Mrg_old (fun _=>xTv hh)] at h;exact .inr h

def Rel (hm h' h2:H):Prop:=Sub h2 hm∨Sub h' h2

theorem QS.le2 (q:QS ρ ρi hm h' w w') (h2:H) : ∀ id x,Rst ρ h2 id=some x→Rst (Mrg ρ ρi hm h') h2 id=some x:=fun id x h=>by
  obtain ⟨a,b⟩:=zOx.1 h
  exact zOx.2 ⟨q.f3 a,b⟩

theorem QS.lei (q:QS ρ ρi hm h' w w') {h2:H} (hs:Sub h' h2):R.le ρi (Rst (Mrg ρ ρi hm h') h2):=fun id x h=>by
  obtain ⟨p,hp⟩:=q.hri.has h
  exact .inl (zOx.2 ⟨q.f4 h,p,hs id p hp⟩)

theorem QS.or (q:QS ρ ρi hm h' w w') {h2:H} (rel:Rel hm h' h2) {n:Nat} {o:AO} {o0 o1:Obj} (a:OR (Rst ρ h2) n o o0) (b:OR ρi n o o1):OR (Rst (Mrg ρ ρi hm h') h2) n o o1:=by
  rcases rel with hs|hs
  · refine (OR.down (fun id x h=>?_) a b).up (fun id x h=>.inl (q.le2 h2 id x h))
    obtain ⟨h1,p,hp⟩:=zOx.1 h
    exact q.f1 id x (zOx.2 ⟨h1,p,hs id p hp⟩)
  · exact b.up (q.lei hs)

theorem QS.hr (q:QS ρ ρi hm h' w w') {h2:H} (hr2:HR (Rst ρ h2) h2 w) (rel:Rel hm h' h2):HR (Rst (Mrg ρ ρi hm h') h2) h2 w':=by
  have new : ∀ id,Has h2 id→T.get id hm.objs=none→Has h' id→Sub h' h2:=fun id h2' hn _=>by
    rcases rel with hs|hs
    · obtain ⟨p,hp⟩:=h2';rw [hs id p hp] at hn;cases hn
    · exact hs
  refine ⟨?_,?_,?_,hr2.old⟩
  · intro id b n hid
    obtain ⟨hid,hin⟩:=zOx.1 hid
    rcases q.f6 hid with ⟨c1,c2,c3⟩|c
    · have hs:=new id hin c1 c2
      obtain ⟨born,o,o',g1,g2,g3⟩:=q.hri.live id b n c3
      exact ⟨born,o,o',hs _ _ g1,g2,g3.up (q.lei hs)⟩
    · obtain ⟨born,o,o',g1,g2,g3⟩:=hr2.live id b n (zOx.2 ⟨c,hin⟩)
      by_cases hW:Wr (Rst ρ hm) hm b
      · obtain ⟨id0,n0,k1,k2⟩:=hW
        obtain ⟨k3,p0,k4⟩:=zOx.1 k1
        have hsame:id0=id:=by
          rcases rel with hs|hs
          · obtain ⟨p,hp⟩:=hin
            exact q.hrm.inj id0 id b n0 n k1 (zOx.2 ⟨c,p,hs id p hp⟩)
          · exact hr2.inj id0 id b n0 n (zOx.2 ⟨k3,p0,hs _ _ (q.f2 _ _ k4)⟩) (zOx.2 ⟨c,hin⟩)
        subst hsame
        have hn:n0=n:=by rw [k3] at c;cases c;rfl
        subst hn
        have hi:=q.f1 _ _ k1
        obtain ⟨born2,o2,o2',m1,m2,m3⟩:=q.hri.live id0 b n0 hi
        have hobj:T.get id0 h'.objs=some (born,o):=by
          rcases rel with hs|hs
          · exact q.f2 _ _ (hs _ _ g1)
          · have e1:=q.f2 _ _ k4
            have e2:=hs _ _ e1
            rw [g1] at e2
            cases e2
            exact e1
        rw [hobj] at m1
        cases m1
        exact ⟨born,o,o2',g1,m2,q.or rel g3 m3⟩
      · have hlt:=(Array.getElem?_eq_some_iff.1 g2).1
        exact ⟨born,o,o',g1,(q.ex.frame b hlt hW).trans g2,g3.up (fun j x h=>.inl (q.le2 h2 j x h))⟩
  · intro i j b n n' hi hj
    obtain ⟨hi,hin⟩:=zOx.1 hi
    obtain ⟨hj,hjn⟩:=zOx.1 hj
    have mixed : ∀ id id' n n',Has h2 id'→T.get id hm.objs=none → ρi id=some (some (b,n)) → ρ id'=some (some (b,n'))→False:=by
      intro id id' n n' hin' hnone hnew hold
      rcases q.ex.rng id b n hnew with hb|⟨id0,n0,h0⟩
      · obtain ⟨_,_,o',_,g2,_⟩:=hr2.live id' b n' (zOx.2 ⟨hold,hin'⟩)
        exact absurd (Array.getElem?_eq_some_iff.1 g2).1 (Nat.not_lt.2 hb)
      · have:=q.hri.inj id0 id b n0 n (q.f1 _ _ h0) hnew
        subst this
        obtain ⟨_,p,hp⟩:=zOx.1 h0
        rw [hp] at hnone;cases hnone
    rcases q.f6 hi with ⟨c1,c2,c3⟩|c <;> rcases q.f6 hj with ⟨d1,d2,d3⟩|d
    · exact q.hri.inj i j b n n' c3 d3
    · exact (mixed i j n n' hjn c1 c3 d).elim
    · exact (mixed j i n' n hin d1 d3 c).elim
    · exact hr2.inj i j b n n' (zOx.2 ⟨c,hin⟩) (zOx.2 ⟨d,hjn⟩)
  · intro id hid
    obtain ⟨hid,hin⟩:=zOx.1 hid
    rcases q.f6 hid with ⟨c1,c2,c3⟩|c
    · have hs:=new id hin c1 c2
      obtain ⟨born,g⟩:=q.hri.dead id c3
      exact ⟨born,hs _ _ g⟩
    · exact hr2.dead id (zOx.2 ⟨c,hin⟩)

theorem QS.wr (q:QS ρ ρi hm h' w w') {h2:H} (rel:Rel hm h' h2) {b:Nat} (hb:b<w.heap.size) (hW:Wr (Rst (Mrg ρ ρi hm h') h2) h2 b):Wr (Rst ρ hm) hm b∨Wr (Rst ρ h2) h2 b:=by
  obtain ⟨id,n,h1,h2'⟩:=hW
  obtain ⟨h3,p,h4⟩:=zOx.1 h1
  rcases q.f6 h3 with ⟨c1,c2,c3⟩|c
  · refine .inl (q.ex.wr b hb ⟨id,n,c3,?_⟩)
    rintro ⟨born,m,hmm⟩
    rcases rel with hs|hs
    · rw [hs _ _ h4] at c1;cases c1
    · exact h2' ⟨born,m,hs _ _ hmm⟩
  · exact .inr ⟨id,n,zOx.2 ⟨c,p,h4⟩,h2'⟩

end

end Go.Ev
end

section
namespace Go.Ev

def NQ (P:Program) (ih:Evs) (ops:Array Oper) (F:Nat→FS) (G:Nat→H) (k:Nat):Prop:=
  ∃ o v h',ops[k]? = some o∧wantE ops (F k).tm o.guard=some true∧execE P ih (F k).tm o.type o.op (marked (G k)) = .ok v h' ∧ ¬ (G k).clock≤h'.w

structure Chn (P:Program) (ih:Evs) (ops:Array Oper) (F:Nat→FS) (G:Nat→H):Prop where
  ls : ∀ k,k<ops.size→LS P ih ops k (F k) (G k) (F (k+1)) (G (k+1))
  ai : ∀ k,k≤ops.size → ∀ id born o,T.get id (G k).objs=some (born,o)→born<(G k).clock
  keep : ∀ k,k<ops.size → ∀ id,Has (G k) id→Has (G (k+1)) id
  sub : ∀ k,k<ops.size → ¬ NQ P ih ops F G k→Sub (G k) (G (k+1))
  nn : ∀ k,k≤ops.size→(F k).n=(F 0).n
  clk:(G 0).clock≤(G ops.size).clock
  keep0 : ∀ id born o,T.get id (G 0).objs=some (born,o)→(∃ o',T.get id (G ops.size).objs=some (born,o'))∧(born<(G ops.size).w→T.get id (G ops.size).objs=some (born,o))
  wle:(G ops.size).w≤(G 0).w

theorem lex_step {P:Program} {ih:Evs} (hi:CallOK P ih) {ops:Array Oper} {k:Nat} {fs fs1:FS} {h h1:H} (hl:LS P ih ops k fs h fs1 h1) {ρ : R} {rd:Option Nat} {tm:Array Value} {df:List Deferred} {w:World} (s:St ρ fs h rd tm df w) :
    ∃ ρ' tm' w',St ρ' fs1 h1 rd tm' df w'∧Ext ρ h w ρ' h1 w':=by
  obtain ⟨o,hop,hc⟩:=hl
  have wanted : ∀ b,wantE ops fs.tm o.guard=some b→Region.wanted o (yielded ops tm)=b:=fun b hw=>
    xOx (ρ:=ρ) (n:=fs.n) (fun j want oj d _ _ _ v hv=>s.tr.2 d v hv) s.tr.1 hw
  have put : ∀ {dst:Option Tmp} {v:AV} {ρ1:R} {v':Value} {h2:H} {w1:World},PutR fs dst v fs1→R.le ρ ρ1→VR ρ1 v v'→HR ρ1 h2 w1 → ∃ tm',St ρ1 fs1 h2 rd tm' df w1:=by
    intro dst v ρ1 v' h2 w1 hp hle hv hr
    rcases hp with ⟨_,rfl⟩|⟨d,tm',_,hlt,hs,rfl⟩
    · exact ⟨tm,s.gr.up hle,s.tr.up hle,hr,s.dr.up hle,s.rd.up hle⟩
    · exact ⟨_,s.gr.up hle,s.tr.put hle hlt hs hv,hr,s.dr.up hle,s.rd.up hle⟩
  rcases hc with ⟨_,hp,rfl⟩|⟨hw,v,h',hx,_,rfl,hp⟩
  · obtain ⟨tm',g⟩:=put hp (R.le_refl ρ) (.tup [] #[] .nil:VR ρ (.tup []) undef) s.hr
    exact ⟨ρ,tm',w,g,.refl⟩
  · obtain ⟨ρ1,v',w1,b1,b2,b3,_⟩:=xJv (df:=df) hi s.gr s.hr.marked (EvOk.all (a:=⟨tm,df⟩) s.gr s.tr _) hx hop (wanted _ hw) 0 rd [] [] []
    have b2':HR ρ1 (reW h h') w1:=HR.remark (clock:=h'.clock) (next:=h'.next) (objs:=h'.objs) (w1:=h'.w) b2
    obtain ⟨tm',g⟩:=put hp b3.le b1 b2'
    exact ⟨ρ1,tm',w1,g,Ext.unmarked (objs:=h'.objs) (next:=h'.next) (clock:=h'.clock) (w1:=h'.w) b3⟩

theorem chain_all {P:Program} {ih:Evs} (hi:CallOK P ih) {ops:Array Oper} {F:Nat→FS} {G:Nat→H} (hl : ∀ k,k<ops.size→LS P ih ops k (F k) (G k) (F (k+1)) (G (k+1)))
    {ρ : R} {rd:Option Nat} {tm:Array Value} {df:List Deferred} {w:World} (s:St ρ (F 0) (G 0) rd tm df w) : ∀ k,k≤ops.size → ∃ ρ' tm' w',St ρ' (F k) (G k) rd tm' df w'∧Ext ρ (G 0) w ρ' (G k) w':=by
  intro k
  induction k with
  | zero=>intro _;exact ⟨ρ,tm,w,s,.refl⟩
  | succ k ih2=>
    intro hk
    obtain ⟨ρ1,tm1,w1,s1,e1⟩:=ih2 (by omega)
    obtain ⟨ρ2,tm2,w2,s2,e2⟩:=lex_step hi (hl k (by omega)) s1
    exact ⟨ρ2,tm2,w2,s2,e1.trans e2⟩

theorem chain_chn {P:Program} {ih:Evs} (hi:CallOK P ih) {ops:Array Oper} {F:Nat→FS} {G:Nat→H} (hl : ∀ k,k<ops.size→LS P ih ops k (F k) (G k) (F (k+1)) (G (k+1)))
    {ρ : R} {rd:Option Nat} {tm:Array Value} {df:List Deferred} {w:World} (s:St ρ (F 0) (G 0) rd tm df w):Chn P ih ops F G:=by
  have all:=chain_all hi hl s
  obtain ⟨_,_,_,_,eN⟩:=all ops.size (Nat.le_refl _)
  refine ⟨hl,?_,?_,?_,?_,eN.clk,eN.keep,eN.wle⟩
  · intro k hk id born o hg
    obtain ⟨_,_,_,s1,_⟩:=all k hk
    exact s1.hr.old id born o hg
  · intro k hk id ⟨p,hp⟩
    obtain ⟨ρ1,tm1,w1,s1,_⟩:=all k (by omega)
    obtain ⟨_,_,_,_,e2⟩:=lex_step hi (hl k hk) s1
    obtain ⟨born,o⟩:=p
    obtain ⟨⟨o',ho⟩,_⟩:=e2.keep id born o hp
    exact ⟨_,ho⟩
  · intro k hk hq
    obtain ⟨ρ1,tm1,w1,s1,_⟩:=all k (by omega)
    obtain ⟨o,hop,hc⟩:=hl k hk
    rcases hc with ⟨_,_,hG⟩|⟨hw,v,h',hx,_,hG,_⟩
    · rw [hG];exact fun _ _ e=>e
    · have hclk:(G k).clock≤h'.w:=by
        by_cases h1:(G k).clock≤h'.w
        · exact h1
        · exact absurd ⟨o,v,h',hop,hw,hx,h1⟩ hq
      have wanted:Region.wanted o (yielded ops tm1)=true:=xOx (ρ:=ρ1) (n:=(F k).n) (fun j want oj d _ _ _ v hv=>s1.tr.2 d v hv) s1.tr.1 hw
      obtain ⟨ρ2,v',w2,b1,b2,b3,_⟩:=xJv (df:=df) hi s1.gr s1.hr.marked (EvOk.all (a:=⟨tm1,df⟩) s1.gr s1.tr _) hx hop wanted 0 rd [] [] []
      intro id p hp
      rw [hG]
      obtain ⟨born,ob⟩:=p
      exact xTy s1.hr.marked b3 hclk hp
  · intro k
    induction k with
    | zero=>intro _;rfl
    | succ k ih2=>
      intro hk
      rw [← ih2 (by omega)]
      obtain ⟨o,hop,hc⟩:=hl k (by omega)
      rcases hc with ⟨_,hp,_⟩|⟨_,_,_,_,_,_,hp⟩
      · exact hp.same.2.1
      · exact hp.same.2.1

section
variable {P:Program} {ih:Evs} {ops:Array Oper} {F:Nat→FS} {G:Nat→H}

theorem Chn.has (c:Chn P ih ops F G) {a b:Nat} (hab:a≤b) (hb:b≤ops.size) {id:Pos} (h:Has (G a) id):Has (G b) id:=by
  induction b with
  | zero=>
            have:a=0:=by omega
            subst this;exact h
  | succ b ih2=>
    by_cases e:a=b+1
    · subst e;exact h
    · exact c.keep b (by omega) id (ih2 (by omega) (by omega))

def Seg (P:Program) (ih:Evs) (ops:Array Oper) (F:Nat→FS) (G:Nat→H) (q m:Nat):Prop:=q≤m∧m≤ops.size ∧ ∀ k,q≤k→k<m → ¬ NQ P ih ops F G k

theorem Chn.seg (c:Chn P ih ops F G) {q a b:Nat} (hs:Seg P ih ops F G q b) (h1:q≤a) (h2:a≤b):Sub (G a) (G b):=by
  obtain ⟨g1,g2,g3⟩:=hs
  induction b with
  | zero=>
            have:a=0:=by omega
            subst this;exact fun _ _ e=>e
  | succ b ih2=>
    by_cases e:a=b+1
    · subst e;exact fun _ _ e=>e
    · intro id p hp
      exact c.sub b (by omega) (g3 b (by omega) (by omega)) id p (ih2 (by omega) (by omega) (by omega) (fun k k1 k2=>g3 k k1 (by omega)) id p hp)

theorem Chn.bar (c:Chn P ih ops F G) {k:Nat} (hk:k<ops.size) (hn:NQ P ih ops F G k) : ∃ o v h',ops[k]? = some o∧wantE ops (F k).tm o.guard=some true∧execE P ih (F k).tm o.type o.op (marked (G k)) = .ok v h' ∧
    touches o.op=true∧barOk (barOf ops (Region.before ops) o k) (F k).tm o.op=true∧h'.objs=(G (k+1)).objs∧PutR (F k) o.dst v (F (k+1))∧G (k+1)=reW (G k) h':=by
  obtain ⟨o,v,h',hop,hw,hx,hq⟩:=hn
  obtain ⟨o2,hop2,hc⟩:=c.ls k hk
  rw [hop] at hop2
  cases hop2
  rcases hc with ⟨hw2,_,_⟩|⟨_,v2,h2,hx2,hb,hG,hp⟩
  · rw [hw] at hw2;cases hw2
  · rw [hx] at hx2
    cases hx2
    refine ⟨o,v,h',hop,hw,hx,?_,hb.resolve_left hq,by rw [hG];rfl,hp,hG⟩
    cases ht:touches o.op with
    | true=>rfl
    | false=>
      obtain ⟨e,_⟩:=execE_pure ht hx
      rw [e] at hq
      exact absurd (Nat.le_refl _) hq

def Wt (ops:Array Oper) (k:Nat) (t:Tmp):Prop:=∃ o,ops[k]? = some o∧o.dst=some t

theorem Chn.same (c:Chn P ih ops F G) {a b:Nat} {t:Tmp} (hab:a≤b) (hb:b≤ops.size) (h : ∀ k,a≤k→k<b → ¬ Wt ops k t):(F b).tm.get t=(F a).tm.get t:=by
  induction b with
  | zero=>
            have:a=0:=by omega
            subst this;rfl
  | succ b ih2=>
    by_cases e:a=b+1
    · subst e;rfl
    · rw [← ih2 (by omega) (by omega) (fun k k1 k2=>h k k1 (by omega))]
      obtain ⟨o,hop,hc⟩:=c.ls b (by omega)
      have hne:o.dst≠some t:=fun e=>h b (by omega) (by omega) ⟨o,hop,e⟩
      rcases hc with ⟨_,hp,_⟩|⟨_,_,_,_,_,_,hp⟩ <;> exact hp.get hne

def Last (ops:Array Oper) (S:Nat→Prop) (t:Tmp) (p:Nat):Prop:=(p=0 ∨ ∃ k,p=k+1∧S k∧Wt ops k t) ∧ ∀ k,S k→Wt ops k t→k<p

theorem greatest {A:Nat→Prop} : ∀ i,∃ p,p≤i∧(p=0 ∨ ∃ k,p=k+1∧A k) ∧ ∀ k,k<i→A k→k<p:=by
  intro i
  induction i with
  | zero=>exact ⟨0,Nat.le_refl _,.inl rfl,fun k h=>absurd h (Nat.not_lt_zero k)⟩
  | succ i ih2=>
    obtain ⟨p,h1,h2,h3⟩:=ih2
    by_cases h:A i
    · exact ⟨i+1,Nat.le_refl _,.inr ⟨i,rfl,h⟩,fun k hk _=>hk⟩
    · refine ⟨p,by omega,h2,fun k hk ha=>?_⟩
      by_cases e:k=i
      · subst e;exact absurd ha h
      · exact h3 k (by omega) ha

end

theorem ordered_lt {b:Array Nat} {i j:Nat} (h:i<j):ordered b i j=(b.getD j 0).testBit i:=by
  unfold ordered
  rw [Nat.ble_eq_true_of_le (Nat.le_of_lt h)];rfl
theorem xTx {b:Array Nat} {i j:Nat} (h:j<i):ordered b i j=(b.getD i 0).testBit j:=by
  unfold ordered
  have:Nat.ble i j=false:=by
    cases hb:Nat.ble i j with
    | false=>rfl
    | true=>exact absurd (Nat.le_of_ble_eq_true hb) (by omega)
  rw [this];rfl

structure Rdy (ops:Array Oper) (S:Nat→Prop) (i:Nat) (o:Oper):Prop where
  cl:Closed ops S
  lt : ∀ k,S k→k<ops.size
  no : ¬ S i
  op:ops[i]? = some o
  deps : ∀ e ∈ o.after,Region.binds .any e=true→S e.on

section
variable {ops:Array Oper} {S:Nat→Prop} {i:Nat} {o:Oper}
theorem Rdy.isz (r:Rdy ops S i o):i<ops.size:=(Array.getElem?_eq_some_iff.1 r.op).1
theorem Rdy.before (r:Rdy ops S i o) {k:Nat} (hk:k<i) (h:((Region.before ops).getD i 0).testBit k=true):S k:=before_ready r.cl r.op r.deps (by omega) h
theorem Rdy.after (r:Rdy ops S i o) {k:Nat} (hk:S k) (h:((Region.before ops).getD k 0).testBit i=true):False:=r.no (xRx r.cl k i hk h)

theorem share_look {a b:Oper} {t:Tmp} (h1:a.dst=some t) (h2:t ∈ b.looksAt ops∨b.dst=some t):share ops a b=true∧share ops b a=true:=by
  rcases h2 with h2|h2
  · have:namesHit a.dst (b.looksAt ops)=true:=by rw [h1];exact List.contains_iff_mem.2 h2
    exact ⟨by unfold share;simp [this],by unfold share;simp [this]⟩
  · have e1:sameDst a.dst b.dst=true:=by rw [h1,h2];exact Nat.beq_refl t
    have e2:sameDst b.dst a.dst=true:=by rw [h1,h2];exact Nat.beq_refl t
    exact ⟨by unfold share;simp [e1],by unfold share;simp [e2]⟩

theorem Rdy.writers (st:Static ops) (r:Rdy ops S i o) {t:Tmp} (ht:t ∈ o.looksAt ops∨o.dst=some t) {k:Nat} (hw:Wt ops k t):(k<i→S k)∧(S k→k<i):=by
  obtain ⟨ok,hk,hd⟩:=hw
  obtain ⟨s1,s2⟩:=share_look (ops:=ops) hd ht
  refine ⟨fun hlt=>r.before hlt (st.temps k i ok o hk r.op hlt s1),fun hS=>?_⟩
  rcases Nat.lt_trichotomy k i with h|h|h
  · exact h
  · subst h;exact absurd hS r.no
  · exact (r.after hS (st.temps i k o ok r.op hk h s2)).elim

theorem Rdy.last (st:Static ops) (r:Rdy ops S i o) {P:Program} {ih:Evs} {F:Nat→FS} {G:Nat→H} (c:Chn P ih ops F G) {t:Tmp} (ht:t ∈ o.looksAt ops∨o.dst=some t) :
    ∃ p,p≤i∧Last ops S t p∧(F i).tm.get t=(F p).tm.get t:=by
  obtain ⟨p,h1,h2,h3⟩:=greatest (A:=fun k=>S k∧Wt ops k t) i
  refine ⟨p,h1,⟨?_,fun k hk hw=>h3 k ((r.writers st ht hw).2 hk) ⟨hk,hw⟩⟩,c.same h1 (Nat.le_of_lt r.isz) fun k k1 k2 hw=>?_⟩
  · rcases h2 with h|⟨k,rfl,h⟩
    · exact .inl h
    · exact .inr ⟨k,rfl,h⟩
  · have:=h3 k k2 ⟨(r.writers st ht hw).1 k2,hw⟩
    omega
end

end Go.Ev
end

section
namespace Go.Ev

structure Inv (P:Program) (ih:Evs) (ops:Array Oper) (F:Nat→FS) (G:Nat→H) (ρ0:R) (w0:World) (S:Nat→Prop) (ρ : R) (tm:Array Value) (w:World) (q:Nat):Prop where
  qn:q≤ops.size
  qa : ∀ k,k<ops.size→NQ P ih ops F G k→(S k ↔ k<q)
  qb:q=0 ∨ ∃ k,q=k+1∧k<ops.size∧NQ P ih ops F G k
  mem : ∀ m,Seg P ih ops F G q m→HR (Rst ρ (G m)) (G m) w
  dom : ∀ id x,ρ id=some x→Has (G q) id ∨ ∃ k o,S k∧q≤k∧k<ops.size∧ops[k]? = some o∧touches o.op=true∧Has (G (k+1)) id ∧ ¬ Has (G k) id
  tms:tm.size=(F 0).n
  tmp : ∀ t p v,Last ops S t p→(F p).tm.get t=some v→VR (Rst ρ (G (max p q))) v (tm.getD t undef)
  le:R.le ρ0 ρ
  newd : ∀ id,ρ0 id=none → ρ id=none∨T.get id (G 0).objs=none
  rng : ∀ id b n,ρ id=some (some (b,n))→w0.heap.size≤b ∨ ∃ id0 n0,ρ0 id0=some (some (b,n0))
  wr : ∀ m,Seg P ih ops F G q m → ∀ b,b<w0.heap.size→Wr (Rst ρ (G m)) (G m) b→Wr ρ0 (G 0) b
  frame : ∀ b,b<w0.heap.size → ¬ Wr ρ0 (G 0) b→w.heap[b]? = w0.heap[b]?
  size:w0.heap.size≤w.heap.size
  frz : ∀ a,w.frozen? a=w0.frozen? a
  os:w.os=w0.os
  out:w.output=w0.output

theorem Rst_dom {ρ : R} {h:H} (hd : ∀ id x,ρ id=some x→Has h id):Rst ρ h = ρ:=by
  funext id
  cases hx : ρ id with
  | none=>
    cases hr:Rst ρ h id with
    | none=>rfl
    | some x=>rw [(zOx.1 hr).1] at hx;cases hx
  | some x=>exact zOx.2 ⟨hx,hd id x hx⟩

theorem HR.sub {ρ : R} {h h2:H} {w:World} (hr:HR ρ h w) (hs:Sub h h2) (ho : ∀ id born o,T.get id h2.objs=some (born,o)→born<h2.clock):HR ρ h2 w where
  live:=fun id b n e=>by
    obtain ⟨born,o,o',g1,g2,g3⟩:=hr.live id b n e
    exact ⟨born,o,o',hs _ _ g1,g2,g3⟩
  inj:=hr.inj
  dead:=fun id e=>by obtain ⟨born,g⟩:=hr.dead id e;exact ⟨born,hs _ _ g⟩
  old:=ho

section
variable {P:Program} {ih:Evs} {ops:Array Oper} {F:Nat→FS} {G:Nat→H} {ρ0 ρ : R} {w0 w:World} {S S':Nat→Prop} {tm:Array Value} {q i:Nat} {o:Oper}

theorem Seg.refl (h:q≤ops.size):Seg P ih ops F G q q:=⟨Nat.le_refl _,h,fun k k1 k2=>by omega⟩

theorem Rst_mono (c:Chn P ih ops F G) {a b:Nat} (h:a≤b) (hb:b≤ops.size):R.le (Rst ρ (G a)) (Rst ρ (G b)):=fun id x hx=>by
  obtain ⟨h1,h2⟩:=zOx.1 hx
  exact .inl (zOx.2 ⟨h1,c.has h hb h2⟩)

theorem Inv.read (st:Static ops) (c:Chn P ih ops F G) (iv:Inv P ih ops F G ρ0 w0 S ρ tm w q) (r:Rdy ops S i o) {t:Tmp} (ht:t ∈ o.looksAt ops) {v:AV} (hv:(F i).tm.get t=some v):VR (Rst ρ (G (max i q))) v (tm.getD t undef):=by
  obtain ⟨p,h1,h2,h3⟩:=r.last st c (.inl ht)
  rw [h3] at hv
  exact (iv.tmp t p v h2 hv).up (Rst_mono c (by omega) (Nat.max_le.2 ⟨Nat.le_of_lt r.isz,iv.qn⟩))

theorem Inv.gr (c:Chn P ih ops F G) (h0 : ∀ g,g≤63→Has (G 0) (posN g)) (hg:GR ρ0) (iv:Inv P ih ops F G ρ0 w0 S ρ tm w q) {m:Nat} (hm:m≤ops.size):GR (Rst ρ (G m)):=fun g hg2=>by
  obtain ⟨x,hx,hp⟩:=(hg.up iv.le) g hg2
  exact ⟨x,zOx.2 ⟨hx,c.has (Nat.zero_le m) hm (h0 g hg2)⟩,hp⟩

theorem Inv.evs (st:Static ops) (c:Chn P ih ops F G) (iv:Inv P ih ops F G ρ0 w0 S ρ tm w q) (r:Rdy ops S i o) (hg:GR (Rst ρ (G (max i q)))) {df:List Deferred} : EvOk (Rst ρ (G (max i q))) (F i).tm ⟨tm,df⟩ o.op.operands.toList:=by
  intro x hx v hv
  cases x with
  | tmp t=>
    refine iv.read st c r ?_ hv
    unfold Oper.looksAt
    exact List.mem_append_left _ (List.mem_filterMap.2 ⟨.tmp t,hx,rfl⟩)
  | const _=>exact evT_vr (n:=tm.size) (tm:=[]) (a:=⟨tm,df⟩) hg ⟨rfl,fun i v h=>by rw [M.get_eq] at h;simp at h⟩ hv
  | global _=>exact evT_vr (n:=tm.size) (tm:=[]) (a:=⟨tm,df⟩) hg ⟨rfl,fun i v h=>by rw [M.get_eq] at h;simp at h⟩ hv
  | func _=>exact evT_vr (n:=tm.size) (tm:=[]) (a:=⟨tm,df⟩) hg ⟨rfl,fun i v h=>by rw [M.get_eq] at h;simp at h⟩ hv

theorem Inv.wanted (st:Static ops) (c:Chn P ih ops F G) (iv:Inv P ih ops F G ρ0 w0 S ρ tm w q) (r:Rdy ops S i o) {b:Bool} (hw:wantE ops (F i).tm o.guard=some b):Region.wanted o (yielded ops tm)=b:=by
  refine xOx (ρ:=Rst ρ (G (max i q))) (n:=tm.size) (fun j want oj d hgd hj hd v hv=>iv.read st c r ?_ hv) rfl hw
  unfold Oper.looksAt
  rw [hgd]
  refine List.mem_append_right _ ?_
  simp [hj,hd]

theorem tmp_step (st:Static ops) (c:Chn P ih ops F G) (r:Rdy ops S i o) (hS : ∀ k,S' k ↔ S k∨k=i) (htm:tm.size=(F 0).n) {v:AV} {v':Value} (hp:PutR (F i) o.dst v (F (i+1))) {A:Nat→R}
    (old : ∀ t p v,Last ops S t p→(F p).tm.get t=some v→VR (A p) v (tm.getD t undef)) (new:VR (A (i+1)) v v') :
    ∀ t p v,Last ops S' t p→(F p).tm.get t=some v→VR (A p) v ((putA tm o.dst v').getD t undef):=by
  intro t p u hl hu
  by_cases hd:o.dst=some t
  · have hwi:Wt ops i t:=⟨o,r.op,hd⟩
    have hip:=hl.2 i ((hS i).2 (.inr rfl)) hwi
    have hpi:p=i+1:=by
      rcases hl.1 with e|⟨k,e,hk,hwk⟩
      · omega
      · rcases (hS k).1 hk with h|h
        · have:=(r.writers st (.inr hd) hwk).2 h
          omega
        · omega
    subst hpi
    rw [hd] at hp
    obtain ⟨h1,h2⟩:=hp.here
    rw [h2] at hu
    cases hu
    have hlt:t<tm.size:=by rw [htm,← c.nn i (Nat.le_of_lt r.isz)];exact h1
    rw [hd]
    show VR _ _ ((tm.setIfInBounds t v').getD t undef)
    rw [Array.getD_eq_getD_getElem?]
    simp [hlt]
    exact new
  · have hno : ¬ Wt ops i t:=fun ⟨o2,h1,h2⟩=>by rw [r.op] at h1;cases h1;exact hd h2
    have hl':Last ops S t p:=by
      refine ⟨?_,fun k hk hw=>hl.2 k ((hS k).2 (.inl hk)) hw⟩
      rcases hl.1 with e|⟨k,e,hk,hwk⟩
      · exact .inl e
      · rcases (hS k).1 hk with h|h
        · exact .inr ⟨k,e,h,hwk⟩
        · subst h;exact absurd hwk hno
    have:=old t p u hl' hu
    have e:(putA tm o.dst v').getD t undef=tm.getD t undef:=by
      cases hq:o.dst with
      | none=>rfl
      | some d=>
        show (tm.setIfInBounds d v').getD t undef=_
        rw [Array.getD_eq_getD_getElem?,Array.getD_eq_getD_getElem?,Array.getElem?_setIfInBounds_ne (fun e=>hd (by rw [hq,e]))]
    rw [e]
    exact this

theorem putA_size {dst:Option Tmp} {v:Value} : (putA tm dst v).size=tm.size:=by
  cases dst with
  | none=>rfl
  | some d=>show (tm.setIfInBounds d v).size=_;simp

theorem Inv.val (st:Static ops) (c:Chn P ih ops F G) (iv:Inv P ih ops F G ρ0 w0 S ρ tm w q) (r:Rdy ops S i o) (hS : ∀ k,S' k ↔ S k∨k=i) (hq : ¬ NQ P ih ops F G i) {v:AV} {v':Value} (hp:PutR (F i) o.dst v (F (i+1)))
    (hv:VR (Rst ρ (G (max (i+1) q))) v v'):Inv P ih ops F G ρ0 w0 S' ρ (putA tm o.dst v') w q:=
  { iv with
    qa:=fun k hk hn=>by
      rw [hS k,← iv.qa k hk hn]
      exact ⟨fun h=>h.resolve_right (fun e=>hq (e ▸ hn)),.inl⟩
    dom:=fun id x hx=>by
      rcases iv.dom id x hx with h|⟨k,ok,h1,h2⟩
      · exact .inl h
      · exact .inr ⟨k,ok,(hS k).2 (.inl h1),h2⟩
    tms:=by rw [putA_size];exact iv.tms
    tmp:=tmp_step st c r hS iv.tms hp (A:=fun p=>Rst ρ (G (max p q))) iv.tmp hv }

theorem Inv.seg (c:Chn P ih ops F G) (iv:Inv P ih ops F G ρ0 w0 S ρ tm w q) (r:Rdy ops S i o) (ht:touches o.op=true) (hqi:q≤i):Seg P ih ops F G q i:=by
  refine ⟨hqi,Nat.le_of_lt r.isz,fun k k1 k2 hn=>?_⟩
  have hk:k<ops.size:=Nat.lt_trans k2 r.isz
  obtain ⟨ok,v,h',hop,_,_,_,hb,_⟩:=c.bar hk hn
  rcases wBx hb r.op ht (by omega) with h|⟨h,_⟩
  · rw [xTx k2] at h
    have:=(iv.qa k hk hn).1 (r.before k2 h)
    omega
  · omega

theorem Inv.pend (c:Chn P ih ops F G) (iv:Inv P ih ops F G ρ0 w0 S ρ tm w q) (r:Rdy ops S i o) (ht:touches o.op=true) (hiq:i<q) :
    ∃ ty a,o.op = .load ty (.tmp a) ∧ ∃ u id off,(F i).tm.get a=some u∧asPtr u=some (id,off) ∧ ∀ p,T.get id (G i).objs=some p→T.get id (G q).objs=some p:=by

  have each : ∀ k,i<k→k<q→NQ P ih ops F G k → ∃ ty a,o.op = .load ty (.tmp a)∧unwritten ops i a=true ∧ ∃ u id off,(F i).tm.get a=some u∧asPtr u=some (id,off) ∧ ∀ p,T.get id (G k).objs=some p→T.get id (G (k+1)).objs=some p:=by
    intro k k1 k2 hn
    have hk:k<ops.size:=Nat.lt_of_lt_of_le k2 iv.qn
    obtain ⟨ok,v,h',hop,_,hx,_,hb,ho,_⟩:=c.bar hk hn
    rcases wBx hb r.op ht (by omega) with h|⟨_,ty,a,h1,h2,id,u,id',off',g1,g4,g5,g6⟩
    · rw [ordered_lt k1] at h
      exact (r.after ((iv.qa k hk hn).2 k2) h).elim
    · refine ⟨ty,a,h1,h2,u,id',off',?_,g5,fun p hp=>?_⟩
      · rw [← g4]
        exact (c.same (Nat.le_of_lt k1) (Nat.le_of_lt hk) fun m m1 m2 hw=>by
          obtain ⟨om,w1,w2⟩:=hw
          exact unwritten_spec h2 w1 m1 w2).symm
      · rw [← ho]
        exact hits_else g1 hx g6 (h:=marked (G k)) hp
  obtain ⟨k,hk⟩ : ∃ k,q=k+1∧k<ops.size∧NQ P ih ops F G k:=by
    rcases iv.qb with h|h
    · omega
    · exact h
  obtain ⟨rfl,hks,hkn⟩:=hk
  have hik:i<k:=by
    have:S k:=(iv.qa k hks hkn).2 (by omega)
    rcases Nat.lt_or_ge i k with h|h
    · exact h
    · have:i=k:=by omega
      subst this
      exact absurd ‹S i› r.no
  obtain ⟨ty,a,h1,h2,u,id,off,g1,g2,_⟩:=each k hik (by omega) hkn
  refine ⟨ty,a,h1,u,id,off,g1,g2,?_⟩
  have go : ∀ m,i≤m→m≤k+1 → ∀ p,T.get id (G i).objs=some p→T.get id (G m).objs=some p:=by
    intro m
    induction m with
    | zero=>
              intro m1 _ p hp;have:i=0:=by omega
              subst this;exact hp
    | succ m ih2=>
      intro m1 m2 p hp
      by_cases e:i=m+1
      · rw [← e];exact hp
      · have hm:=ih2 (by omega) (by omega) p hp
        have hms:m<ops.size:=by omega
        by_cases hn:NQ P ih ops F G m
        · have him:i<m:=by
            have:S m:=(iv.qa m hms hn).2 (by omega)
            rcases Nat.lt_or_ge i m with h|h
            · exact h
            · have:i=m:=by omega
              subst this
              exact absurd ‹S i› r.no
          obtain ⟨ty2,a2,f1,_,u2,id2,off2,f2,f3,f4⟩:=each m him (by omega) hn
          rw [h1] at f1
          cases f1
          rw [g1] at f2
          cases f2
          rw [g2] at f3
          cases f3
          exact f4 p hm
        · exact c.sub m hms hn _ _ hm
  exact go (k+1) (by omega) (Nat.le_refl _)

end

end Go.Ev
end

section
namespace Go.Ev

section
variable {P:Program} {ih:Evs} {ops:Array Oper} {F:Nat→FS} {G:Nat→H} {ρ0 ρ ρi:R} {w0 w w':World} {S S':Nat→Prop} {tm:Array Value} {q i:Nat} {o:Oper} {h':H}

theorem Inv.quiet (st:Static ops) (c:Chn P ih ops F G) (iv:Inv P ih ops F G ρ0 w0 S ρ tm w q) (r:Rdy ops S i o) (hS : ∀ k,S' k ↔ S k∨k=i) (hnq : ¬ NQ P ih ops F G i) (ht:touches o.op=true) (hqi:q≤i)
    {v:AV} {v':Value} (hp:PutR (F i) o.dst v (F (i+1))) (ho:h'.objs=(G (i+1)).objs) (hclk:(G i).clock≤h'.w) (hv:VR ρi v v') (hri:HR ρi h' w') (ex:Ext (Rst ρ (G i)) (marked (G i)) w ρi h' w') :
    Inv P ih ops F G ρ0 w0 S' (Mrg ρ ρi (marked (G i)) h') (putA tm o.dst v') w' q:=by
  have sg:=iv.seg c r ht hqi
  have hasE : ∀ {id:Pos},Has h' id ↔ Has (G (i+1)) id:=fun {id}=>by unfold Has;rw [ho]
  have fresh : ∀ id,Has h' id→T.get id (marked (G i)).objs=none → ρ id=none:=by
    intro id h1 h2
    cases hx : ρ id with
    | none=>rfl
    | some x=>
      exfalso
      have hno : ¬ Has (G i) id:=fun ⟨p,hp⟩=>by
        have e:T.get id (marked (G i)).objs=T.get id (G i).objs:=rfl
        rw [e,hp] at h2;cases h2
      rcases iv.dom id x hx with h|⟨k,ok,k1,k2,k3,k4,k5,k6,k7⟩
      · exact hno (c.has hqi (Nat.le_of_lt r.isz) h)
      · rcases Nat.lt_trichotomy k i with h|h|h
        · exact hno (c.has h (Nat.le_of_lt r.isz) k6)
        · subst h;exact r.no k1
        · exact k7 (c.has h (Nat.le_of_lt k3) (hasE.1 h1))
  have Q:QS ρ ρi (marked (G i)) h' w w':=⟨(iv.mem i sg).marked,hri,ex,hclk,fresh⟩
  have rel : ∀ m,Seg P ih ops F G q m→Rel (marked (G i)) h' (G m):=by
    intro m hm
    by_cases h:m≤i
    · exact .inl (c.seg sg hm.1 h)
    · refine .inr fun id p hp=>?_
      rw [ho] at hp
      exact c.seg hm (by omega) (by omega) id p hp
  have sub1:Sub h' (G (i+1)):=fun id p hp=>by rw [ho] at hp;exact hp
  refine { qn:=iv.qn,qa:=?_,qb:=iv.qb,mem:=?_,dom:=?_,tms:=?_,tmp:=?_,le:=?_,newd:=?_,rng:=?_,wr:=?_,frame:=?_,size:=?_,frz:=?_,os:=?_,out:=?_ }
  · intro k hk hn
    rw [hS k,← iv.qa k hk hn]
    exact ⟨fun h=>h.resolve_right (fun e=>hnq (e ▸ hn)),.inl⟩
  · intro m hm
    exact Q.hr (iv.mem m hm) (rel m hm)
  · intro id x hx
    rcases Q.f6 hx with ⟨c1,c2,_⟩|h
    · refine .inr ⟨i,o,(hS i).2 (.inr rfl),hqi,r.isz,r.op,ht,hasE.1 c2,fun ⟨p,hp⟩=>?_⟩
      have e:T.get id (marked (G i)).objs=T.get id (G i).objs:=rfl
      rw [e,hp] at c1;cases c1
    · rcases iv.dom id x h with h|⟨k,ok,h1,h2⟩
      · exact .inl h
      · exact .inr ⟨k,ok,(hS k).2 (.inl h1),h2⟩
  · rw [putA_size];exact iv.tms
  · refine tmp_step st c r hS iv.tms hp (A:=fun p=>Rst (Mrg ρ ρi (marked (G i)) h') (G (max p q))) (fun t p u hl hu=>?_) ?_
    · exact (iv.tmp t p u hl hu).up (fun id x h=>.inl (Q.le2 _ id x h))
    · have e:max (i+1) q=i+1:=by omega
      show VR (Rst (Mrg ρ ρi (marked (G i)) h') (G (max (i+1) q))) v v'
      rw [e]
      exact hv.up (Q.lei sub1)
  · exact R.le_trans iv.le (fun id x h=>.inl (Q.f3 h))
  · intro id hid
    cases hx:Mrg ρ ρi (marked (G i)) h' id with
    | none=>exact .inl rfl
    | some x=>
      rcases Q.f6 hx with ⟨c1,_,_⟩|h
      · refine .inr (xTv fun h0=>?_)
        obtain ⟨p,hp⟩:=c.has (Nat.zero_le i) (Nat.le_of_lt r.isz) h0
        have e:T.get id (marked (G i)).objs=T.get id (G i).objs:=rfl
        rw [e,hp] at c1;cases c1
      · rcases iv.newd id hid with h2|h2
        · rw [h2] at h;cases h
        · exact .inr h2
  · intro id b n hx
    rcases Q.f6 hx with ⟨_,_,c3⟩|h
    · rcases ex.rng id b n c3 with h1|⟨id0,n0,h1⟩
      · exact .inl (Nat.le_trans iv.size h1)
      · exact iv.rng id0 b n0 (zOx.1 h1).1
    · exact iv.rng id b n h
  · intro m hm b hb hW
    rcases Q.wr (rel m hm) (Nat.lt_of_lt_of_le hb iv.size) hW with h|h
    · exact iv.wr i sg b hb h
    · exact iv.wr m hm b hb h
  · intro b hb hn
    rw [← iv.frame b hb hn]
    exact ex.frame b (Nat.lt_of_lt_of_le hb iv.size) (fun hW=>hn (iv.wr i sg b hb hW))
  · exact Nat.le_trans iv.size ex.size
  · intro a;exact (ex.frz a).trans (iv.frz a)
  · exact ex.os.trans iv.os
  · exact ex.out.trans iv.out

theorem Inv.writer (st:Static ops) (c:Chn P ih ops F G) (iv:Inv P ih ops F G ρ0 w0 S ρ tm w q) (r:Rdy ops S i o) (hS : ∀ k,S' k ↔ S k∨k=i) (hn:NQ P ih ops F G i) (ht:touches o.op=true) (hqi:q≤i)
    {v:AV} {v':Value} (hp:PutR (F i) o.dst v (F (i+1))) (ho:h'.objs=(G (i+1)).objs) (hv:VR ρi v v') (hri:HR ρi h' w') (ex:Ext (Rst ρ (G i)) (marked (G i)) w ρi h' w') :
    Inv P ih ops F G ρ0 w0 S' ρi (putA tm o.dst v') w' (i+1):=by
  have sg:=iv.seg c r ht hqi
  obtain ⟨o2,_,_,hop2,_,_,_,hbar,_⟩:=c.bar r.isz hn
  rw [r.op] at hop2
  cases hop2
  have sub1:Sub h' (G (i+1)):=fun id p hp=>by rw [ho] at hp;exact hp
  have hasi : ∀ {id x},ρi id=some x→Has (G (i+1)) id:=fun {id x} h=>by
    obtain ⟨p,hp⟩:=hri.has h
    exact ⟨p,sub1 _ _ hp⟩

  have later : ∀ k ok,i<k→ops[k]? = some ok→touches ok.op=true → ¬ S k:=by
    intro k ok h1 h2 h3 hk
    rcases wBx hbar h2 h3 (by omega) with h|⟨h,_⟩
    · rw [xTx h1] at h
      exact r.after hk h
    · omega
  have rho:Rst ρ (G i) = ρ:=Rst_dom fun id x hx=>by
    rcases iv.dom id x hx with h|⟨k,ok,k1,k2,k3,k4,k5,k6,k7⟩
    · exact c.has hqi (Nat.le_of_lt r.isz) h
    · rcases Nat.lt_trichotomy k i with h|h|h
      · exact c.has h (Nat.le_of_lt r.isz) k6
      · subst h;exact absurd k1 r.no
      · exact absurd k1 (later k ok h k4 k5)
  have mono : ∀ {m},i+1≤m→m≤ops.size→Rst ρi (G m) = ρi:=fun {m} h1 h2=>Rst_dom fun id x hx=>c.has h1 h2 (hasi hx)
  refine { qn:=r.isz,qa:=?_,qb:=.inr ⟨i,rfl,r.isz,hn⟩,mem:=?_,dom:=fun id x hx=>.inl (hasi hx),tms:=?_,tmp:=?_,le:=?_,newd:=?_,rng:=?_,wr:=?_,frame:=?_,size:=?_,frz:=?_,os:=?_,out:=?_ }
  · intro k hk hkn
    rw [hS k]
    refine ⟨fun h=>?_,fun h=>?_⟩
    · rcases h with h|h
      · have:=(iv.qa k hk hkn).1 h
        omega
      · omega
    · by_cases e:k=i
      · exact .inr e
      · have hlt:k<i:=by omega
        obtain ⟨ok,_,_,hop,_,_,_,hb,_⟩:=c.bar hk hkn
        rcases wBx hb r.op ht (by omega) with g|⟨g,_⟩
        · rw [xTx hlt] at g
          exact .inl (r.before hlt g)
        · omega
  · intro m hm
    rw [mono hm.1 hm.2.1]
    refine hri.sub (fun id p hp=>?_) (c.ai m hm.2.1)
    exact c.seg hm (Nat.le_refl _) hm.1 id p (sub1 id p hp)
  · rw [putA_size];exact iv.tms
  · refine tmp_step st c r hS iv.tms hp (A:=fun p=>Rst ρi (G (max p (i+1)))) (fun t p u hl hu=>?_) ?_
    · have hps:p≤ops.size:=by
        rcases hl.1 with e|⟨k,e,_,⟨ok,hok,_⟩⟩
        · omega
        · have:=(Array.getElem?_eq_some_iff.1 hok).1;omega
      have hmx:max p (i+1)≤ops.size:=Nat.max_le.2 ⟨hps,r.isz⟩
      rw [mono (Nat.le_max_right _ _) hmx]
      refine (iv.tmp t p u hl hu).up (R.le_trans (fun id x h=>.inl (zOx.1 h).1) ?_)
      rw [← rho];exact ex.le
    · show VR (Rst ρi (G (max (i+1) (i+1)))) v v'
      rw [Nat.max_self,mono (Nat.le_refl _) r.isz]
      exact hv
  · refine R.le_trans iv.le ?_
    rw [← rho];exact ex.le
  · intro id hid
    rcases iv.newd id hid with h|h
    · rcases ex.newd id (by rw [rho];exact h) with h2|h2
      · exact .inl h2
      · refine .inr (xTv fun h0=>?_)
        obtain ⟨p,hp⟩:=c.has (Nat.zero_le i) (Nat.le_of_lt r.isz) h0
        have e:T.get id (marked (G i)).objs=T.get id (G i).objs:=rfl
        rw [e,hp] at h2;cases h2
    · exact .inr h
  · intro id b n hx
    rcases ex.rng id b n hx with h1|⟨id0,n0,h1⟩
    · exact .inl (Nat.le_trans iv.size h1)
    · exact iv.rng id0 b n0 (zOx.1 h1).1
  · intro m hm b hb hW
    refine iv.wr i sg b hb (ex.wr b (Nat.lt_of_lt_of_le hb iv.size) ?_)
    obtain ⟨id,n,h1,h2⟩:=hW
    rw [mono hm.1 hm.2.1] at h1
    exact ⟨id,n,h1,fun ⟨born,mm,hmm⟩=>h2 ⟨born,mm,c.seg hm (Nat.le_refl _) hm.1 _ _ (sub1 _ _ hmm)⟩⟩
  · intro b hb hnW
    rw [← iv.frame b hb hnW]
    exact ex.frame b (Nat.lt_of_lt_of_le hb iv.size) (fun hW=>hnW (iv.wr i sg b hb hW))
  · exact Nat.le_trans iv.size ex.size
  · intro a;exact (ex.frz a).trans (iv.frz a)
  · exact ex.os.trans iv.os
  · exact ex.out.trans iv.out

theorem Inv.step (hi:CallOK P ih) (st:Static ops) (c:Chn P ih ops F G) (h0 : ∀ g,g≤63→Has (G 0) (posN g)) (hg:GR ρ0) (iv:Inv P ih ops F G ρ0 w0 S ρ tm w q) (r:Rdy ops S i o) (hS : ∀ k,S' k ↔ S k∨k=i)
    (fn:FuncId) (rd:Option Nat) (df:List Deferred) (rest:List Nat) (k:List Item) (cs:List Frame) :
    ∃ ρ' tm' w' q',Inv P ih ops F G ρ0 w0 S' ρ' tm' w' q'∧Steps P (lone (Fr fn rd tm df (.inRegion ops (i :: rest) :: k)) cs w) (lone (Fr fn rd tm' df (.inRegion ops rest :: k)) cs w'):=by
  obtain ⟨o2,hop2,hc⟩:=c.ls i r.isz
  rw [r.op] at hop2
  cases hop2
  have hmx:max i q≤ops.size:=Nat.max_le.2 ⟨Nat.le_of_lt r.isz,iv.qn⟩
  have hmx1:max (i+1) q≤ops.size:=Nat.max_le.2 ⟨r.isz,iv.qn⟩
  have grm:=iv.gr c h0 hg hmx
  have ev:=iv.evs (df:=df) st c r grm
  rcases hc with ⟨hw,hp,hG⟩|⟨hw,v,h',hx,hb,hG,hp⟩
  · have hnq : ¬ NQ P ih ops F G i:=fun ⟨o3,_,_,e1,e2,_⟩=>by
      rw [r.op] at e1;cases e1;rw [hw] at e2;cases e2
    exact ⟨ρ,_,w,q,iv.val st c r hS hnq hp (v':=undef) (.tup [] #[] .nil),s_opSkip r.op (iv.wanted st c r hw)⟩
  · have hwt:=iv.wanted st c r hw
    have hd : ∀ d,o.op ≠ .defer d:=fun d e=>by rw [e] at hx;cases hx
    cases ht:touches o.op with
    | false=>
      have hnq : ¬ NQ P ih ops F G i:=fun hn=>by
        obtain ⟨o3,_,_,e1,_,_,e4,_⟩:=c.bar r.isz hn
        rw [r.op] at e1;cases e1;rw [ht] at e4;cases e4
      obtain ⟨v',e1,e2⟩:=execE_val (w:=w) ev ht hx
      exact ⟨ρ,_,w,q,iv.val st c r hS hnq hp (e2.up (Rst_mono c (by omega) hmx1)),xPy r.op hwt hd e1⟩
    | true=>
      by_cases hiq:i<q
      · obtain ⟨ty,a,hop,u,id,off,g1,g2,g3⟩:=iv.pend c r ht hiq
        have hnq : ¬ NQ P ih ops F G i:=fun hn=>r.no ((iv.qa i r.isz hn).2 hiq)
        have e:max i q=q:=by omega
        rw [e] at ev grm
        obtain ⟨od,oop,oty,opos,oaf,og⟩:=o
        dsimp only at hop
        subst hop
        obtain ⟨u1,k1,k2⟩:=zMz hx
        have k1':(F i).tm.get a=some u1:=k1
        rw [g1] at k1'
        cases k1'
        obtain ⟨kk,_⟩:=zPz k2
        have hhas:Has (G i) id:=by
          cases hgo:T.get id (G i).objs with
          | some p=>exact ⟨p,hgo⟩
          | none=>
            exfalso
            have hno:Ev.getObj id (marked (G i))=none:=by
              show (Option.rec (motive:=fun _=>Option AO) none (fun bo:Nat × AO=>some bo.2) (T.get id (G i).objs))=none
              rw [hgo]
            unfold loadE loadAgg load1 readCells at kk
            rw [g2] at kk
            dsimp only at kk
            rw [hno] at kk
            dsimp only at kk
            cases hb1:isAggB P ty with
            | none=>rw [hb1] at kk;cases kk
            | some bb=>
              rw [hb1] at kk
              cases bb with
              | false=>cases kk
              | true=>
                cases hb2:sizeE P ty with
                | none=>rw [hb2] at kk;cases kk
                | some n=>rw [hb2] at kk;cases kk
        obtain ⟨p,hp0⟩:=hhas
        have same:T.get id (marked (G i)).objs=T.get id (G q).objs:=by
          have e1:T.get id (marked (G i)).objs=T.get id (G i).objs:=rfl
          rw [e1,g3 p hp0,hp0]
        rw [loadE_same g2 same] at kk
        have hl:=loadE_run (P:=P) (iv.mem q (Seg.refl iv.qn)) (ev (.tmp a) (by simp [Op.operands]) u g1) kk
        obtain ⟨v',f1,f2⟩:=hl.val
        exact ⟨ρ,_,w,q,iv.val st c r hS hnq hp (f2.up (Rst_mono c (by omega) hmx1)),xPy r.op hwt hd f1⟩
      · have hqi:q≤i:=by omega
        have e:max i q=i:=by omega
        rw [e] at ev grm
        have sg:=iv.seg c r ht hqi
        obtain ⟨ρi,v',w',b1,b2,b3,b4⟩:=xJv hi grm (iv.mem i sg).marked ev hx r.op hwt fn rd rest k cs
        have ho:h'.objs=(G (i+1)).objs:=by rw [hG];rfl
        by_cases hn:NQ P ih ops F G i
        · exact ⟨ρi,_,w',i+1,iv.writer st c r hS hn ht hqi hp ho b1 b2 b3,b4⟩
        · have hclk:(G i).clock≤h'.w:=by
            by_cases h1:(G i).clock≤h'.w
            · exact h1
            · exact absurd ⟨o,v,h',r.op,hw,hx,h1⟩ hn
          exact ⟨_,_,w',q,iv.quiet st c r hS hn ht hqi hp ho hclk b1 b2 b3,b4⟩

end

end Go.Ev
end

section
namespace Go.Ev

theorem In_set {listed:Array Bool} {i:Nat} (h:i<listed.size) (k:Nat):In (listed.setIfInBounds i true) k ↔ In listed k∨k=i:=by
  unfold In
  by_cases e:k=i
  · subst e
    simp [h]
  · rw [getD_set_ne false (Ne.symm e)]
    simp [e]

section
variable {P:Program} {ih:Evs} {ops:Array Oper} {F:Nat→FS} {G:Nat→H} {ρ0:R} {w0:World}

theorem all_listed (st:Static ops) {listed:Array Bool} (hs:listed.size=ops.size) (h:Region.ready .any ops listed=[]) : ∀ n k,k<n→k<ops.size→In listed k:=by
  intro n
  induction n with
  | zero=>intro k h;exact absurd h (Nat.not_lt_zero k)
  | succ n ih2=>
    intro k hk hks
    by_cases e:k<n
    · exact ih2 k e hks
    · have hkn:k=n:=by omega
      cases hb:listed.getD k false with
      | true=>exact hb
      | false=>
        exfalso
        have hlt:k<listed.size:=by omega
        have ho:ops[k]? = some ops[k]:=by simp [hks]
        have hm:k ∈ Region.ready .any ops listed:=by
          rw [mem_ready]
          refine ⟨?_,ops[k],ho,fun e he hbd=>?_⟩
          · rw [Array.getD_eq_getD_getElem?] at hb ⊢
            simp [hlt] at hb ⊢
            exact hb
          · have:=st.edges k _ e ho he hbd
            exact ih2 e.on (by omega) (by omega)
        rw [h] at hm
        cases hm

theorem count_set {l:List Bool} : ∀ {i:Nat},l[i]? = some false→(l.set i true).count false+1=l.count false:=by
  induction l with
  | nil=>intro i h;simp at h
  | cons b l ih2=>
    intro i h
    cases i with
    | zero=>simp at h;subst h;simp
    | succ i=>
      rw [List.getElem?_cons_succ] at h
      rw [List.set_cons_succ,List.count_cons,List.count_cons,← ih2 h]
      omega

theorem run_any (hi:CallOK P ih) (st:Static ops) (c:Chn P ih ops F G) (h0 : ∀ g,g≤63→Has (G 0) (posN g)) (hg:GR ρ0) (fn:FuncId) (rd:Option Nat) (df:List Deferred) (k:List Item) (cs:List Frame) :
    ∀ (fuel t:Nat) (listed:Array Bool) (ρ : R) (tm:Array Value) (w:World) (q:Nat),listed.size=ops.size→Closed ops (In listed)→listed.toList.count false≤fuel→Inv P ih ops F G ρ0 w0 (In listed) ρ tm w q →
      ∃ S' ρ' tm' w' q',(∀ j,j<ops.size→S' j)∧(∀ j,S' j→j<ops.size)∧Inv P ih ops F G ρ0 w0 S' ρ' tm' w' q' ∧
        Steps P (lone (Fr fn rd tm df (.inRegion ops (Region.linearise.go .any ops fuel t listed []) :: k)) cs w) (lone (Fr fn rd tm' df (.inRegion ops [] :: k)) cs w'):=by
  intro fuel
  have inlt : ∀ {listed:Array Bool},listed.size=ops.size → ∀ j,In listed j→j<ops.size:=by
    intro listed hs j hj
    unfold In at hj
    rw [Array.getD_eq_getD_getElem?] at hj
    rcases Nat.lt_or_ge j listed.size with h|h
    · omega
    · rw [Array.getElem?_eq_none h] at hj;simp at hj
  induction fuel with
  | zero=>
    intro t listed ρ tm w q hs hcl hf iv
    refine ⟨In listed,ρ,tm,w,q,fun j hj=>?_,inlt hs,iv,.refl _ _⟩
    have h1:false ∉ listed.toList:=List.count_eq_zero.1 (Nat.le_zero.1 hf)
    have hlt:j<listed.size:=by omega
    unfold In
    rw [Array.getD_eq_getD_getElem?]
    simp [hlt]
    cases hb:listed[j] with
    | true=>rfl
    | false=>exact absurd (hb ▸ Array.getElem_mem_toList hlt) h1
  | succ fuel ih2=>
    intro t listed ρ tm w q hs hcl hf iv
    simp only [Region.linearise.go]
    change ∃ S' ρ' tm' w' q',(∀ j,j<ops.size→S' j)∧(∀ j,S' j→j<ops.size)∧Inv P ih ops F G ρ0 w0 S' ρ' tm' w' q' ∧
        Steps P (lone (Fr fn rd tm df (.inRegion ops (match (Region.ready .any ops listed)[t % (Region.ready .any ops listed).length]? with
      | some i=>Region.linearise.go .any ops fuel (t / (Region.ready .any ops listed).length) (listed.setIfInBounds i true) [i]
      | none=>[].reverse) :: k)) cs w) (lone (Fr fn rd tm' df (.inRegion ops [] :: k)) cs w')
    cases hget:(Region.ready .any ops listed)[t % (Region.ready .any ops listed).length]? with
    | none=>
      have hnil:Region.ready .any ops listed=[]:=by
        cases hr:Region.ready .any ops listed with
        | nil=>rfl
        | cons x xs=>
          rw [hr] at hget
          have hlt:t % (x :: xs).length<(x :: xs).length:=Nat.mod_lt _ (by simp)
          simp at hget
          simp at hlt
          omega
      exact ⟨In listed,ρ,tm,w,q,fun j hj=>all_listed st hs hnil (j+1) j (Nat.lt_succ_self j) hj,inlt hs,iv,.refl _ _⟩
    | some i=>
      have hm:=List.mem_of_getElem? hget
      rw [mem_ready] at hm
      obtain ⟨hno,o,hop,hdeps⟩:=hm
      have hlt:i<listed.size:=by rw [hs];exact (Array.getElem?_eq_some_iff.1 hop).1
      have hfalse:listed[i]? = some false:=by
        rw [Array.getD_eq_getD_getElem?] at hno
        simp [hlt] at hno
        simp [hlt,hno]
      have hni : ¬ In listed i:=fun h=>by
        unfold In at h
        rw [Array.getD_eq_getD_getElem?,hfalse] at h
        cases h
      have r:Rdy ops (In listed) i o:=⟨hcl,inlt hs,hni,hop,fun e he hb=>hdeps e he hb⟩
      have hS:=In_set (listed:=listed) hlt
      obtain ⟨ρ1,tm1,w1,q1,iv1,st1⟩:=iv.step hi st c h0 hg r hS fn rd df (Region.linearise.go .any ops fuel (t / (Region.ready .any ops listed).length) (listed.setIfInBounds i true) []) k cs
      obtain ⟨S',ρ',tm',w',q',g1,g2,g3,g4⟩:=ih2 (t / (Region.ready .any ops listed).length) (listed.setIfInBounds i true) ρ1 tm1 w1 q1 (by simp [hs]) (by
        intro j oj hj hoj e he hb
        rw [hS] at hj ⊢
        rcases hj with hj|rfl
        · exact .inl (hcl j oj hj hoj e he hb)
        · rw [hop] at hoj;cases hoj;exact .inl (hdeps e he hb)) (by
        have:=count_set (l:=listed.toList) (i:=i) (by simpa using hfalse)
        rw [Array.toList_setIfInBounds]
        omega) iv1
      refine ⟨S',ρ',tm',w',q',g1,g2,g3,?_⟩
      dsimp only
      rw [linearise_go_acc,List.reverse_singleton,List.singleton_append]
      exact st1.trans g4

end

theorem opsD_run {P:Program} {ih:Evs} (hi:CallOK P ih) {ops:Array Oper} {l:List (Oper × Bar)} (hd:drawn ops=some l) {fs fs':FS} {h h':H} (he:opsD P ih ops l fs h = .ok fs' h') :
    fs'.fn=fs.fn∧fs'.n=fs.n∧fs'.round=fs.round∧fs'.defs=fs.defs ∧ ∀ ρ rd tm df w,St ρ fs h rd tm df w → ∀ fn k cs t,∃ ρ' tm' w',St ρ' fs' h' rd tm' df w'∧Ext ρ h w ρ' h' w' ∧
      Steps P (lone (Fr fn rd tm df (.inRegion ops (Region.linearise .any ops t) :: k)) cs w) (lone (Fr fn rd tm' df (.inRegion ops [] :: k)) cs w'):=by
  obtain ⟨st,rfl⟩:=drawn_some hd
  obtain ⟨F,G,f1,f2,f3,f4,f5⟩:=opsD_chain (withBars ops (Region.before ops)) 0 fs h (fun k=>by rw [Nat.zero_add];exact withBars_get k) he
  have hlen:(withBars ops (Region.before ops)).length=ops.size:=by simp [withBars]
  rw [Nat.zero_add,hlen] at f3 f4
  rw [hlen] at f5
  have hl : ∀ k,k<ops.size→LS P ih ops k (F k) (G k) (F (k+1)) (G (k+1)):=fun k hk=>f5 k (Nat.zero_le k) (by omega)
  have sames : ∀ k,k≤ops.size→(F k).fn=fs.fn∧(F k).n=fs.n∧(F k).defs=fs.defs∧(F k).round=fs.round:=by
    intro k
    induction k with
    | zero=>intro _;rw [f1];exact ⟨rfl,rfl,rfl,rfl⟩
    | succ k ih2=>
      intro hk
      obtain ⟨a1,a2,a3,a4⟩:=ih2 (by omega)
      obtain ⟨o,hop,hc⟩:=hl k (by omega)
      have : ∃ v,PutR (F k) o.dst v (F (k+1)):=by
        rcases hc with ⟨_,hp,_⟩|⟨_,v,_,_,_,_,hp⟩
        · exact ⟨_,hp⟩
        · exact ⟨v,hp⟩
      obtain ⟨v,hp⟩:=this
      obtain ⟨b1,b2,b3,b4⟩:=hp.same
      exact ⟨b1.trans a1,b2.trans a2,b3.trans a3,b4.trans a4⟩
  obtain ⟨s1,s2,s3,s4⟩:=sames ops.size (Nat.le_refl _)
  rw [f3] at s1 s2 s3 s4
  refine ⟨s1,s2,s4,s3,fun ρ rd tm df w s fn k cs t=>?_⟩
  rw [← f1,← f2] at s
  have c:Chn P ih ops F G:=chain_chn hi hl s
  have h0 : ∀ g,g≤63→Has (G 0) (posN g):=fun g hg=>by
    obtain ⟨x,hx,_⟩:=s.gr g hg
    exact s.hr.has hx
  have domN : ∀ {m},m≤ops.size→Rst ρ (G m) = ρ:=fun {m} hm=>Rst_dom fun id x hx=>c.has (Nat.zero_le m) hm (s.hr.has hx)
  have iv:Inv P ih ops F G ρ w (In (Array.replicate ops.size false)) ρ tm w 0:=by
    have none : ∀ j,¬ In (Array.replicate ops.size false) j:=fun j hj=>by
      unfold In at hj
      rw [Array.getD_eq_getD_getElem?] at hj
      rcases Nat.lt_or_ge j ops.size with h|h
      · simp [Array.getElem?_replicate,h] at hj
      · rw [Array.getElem?_eq_none (by simp;omega)] at hj;simp at hj
    refine { qn:=Nat.zero_le _,qa:=fun k _ _=>⟨fun h=>absurd h (none k),fun h=>absurd h (Nat.not_lt_zero k)⟩,qb:=.inl rfl,mem:=?_,dom:=fun id x hx=>.inl (s.hr.has hx),tms:=s.tr.1,tmp:=?_,le:=R.le_refl ρ,newd:=fun _ e=>.inl e,
             rng:=fun id b n e=>.inr ⟨id,n,e⟩,wr:=?_,frame:=fun _ _ _=>rfl,size:=Nat.le_refl _,frz:=fun _=>rfl,os:=rfl,out:=rfl }
    · intro m hm
      rw [domN hm.2.1]
      exact s.hr.sub (c.seg hm (Nat.le_refl _) (Nat.zero_le m)) (c.ai m hm.2.1)
    · intro t p v hl2 hv
      have hp:p=0:=by
        rcases hl2.1 with e|⟨k,_,hk,_⟩
        · exact e
        · exact absurd hk (none k)
      subst hp
      show VR (Rst ρ (G (max 0 0))) v _
      rw [Nat.max_self,domN (Nat.zero_le _)]
      exact s.tr.2 t v hv
    · intro m hm b hb hW
      obtain ⟨id,n,g1,g2⟩:=hW
      rw [domN hm.2.1] at g1
      exact ⟨id,n,g1,fun ⟨born,mm,hmm⟩=>g2 ⟨born,mm,c.seg hm (Nat.le_refl _) (Nat.zero_le m) _ _ hmm⟩⟩
  obtain ⟨S',ρ',tm',w',q',e1,e2,iv',e3⟩:=run_any hi st c h0 s.gr fn rd df k cs ops.size t (Array.replicate ops.size false) ρ tm w 0 (by simp) (by
    intro j oj hj
    exfalso
    unfold In at hj
    rw [Array.getD_eq_getD_getElem?] at hj
    rcases Nat.lt_or_ge j ops.size with h|h
    · simp [Array.getElem?_replicate,h] at hj
    · rw [Array.getElem?_eq_none (by simp;omega)] at hj;simp at hj) (by
    have:=List.count_le_length (a:=false) (l:=(Array.replicate ops.size false).toList)
    simp at this ⊢) iv
  have seg:Seg P ih ops F G q' ops.size:=⟨iv'.qn,Nat.le_refl _,fun k k1 k2 hn=>by
    have:=(iv'.qa k k2 hn).1 (e1 k k2)
    omega⟩
  have rho:Rst ρ' (G ops.size) = ρ':=Rst_dom fun id x hx=>by
    rcases iv'.dom id x hx with h|⟨k,ok,k1,k2,k3,k4,k5,k6,k7⟩
    · exact c.has iv'.qn (Nat.le_refl _) h
    · exact c.has k3 (Nat.le_refl _) k6
  have hrN:=iv'.mem ops.size seg
  rw [rho] at hrN
  rw [← f3,← f4]
  refine ⟨ρ',tm',w',⟨s.gr.up iv'.le,⟨?_,fun t v hv=>?_⟩,hrN,?_,?_⟩,?_,?_⟩
  · rw [iv'.tms,c.nn ops.size (Nat.le_refl _)]
  · obtain ⟨p,p1,p2,p3⟩:=greatest (A:=fun k=>S' k∧Wt ops k t) ops.size
    have hl2:Last ops S' t p:=by
      refine ⟨?_,fun k hk hw=>p3 k (e2 k hk) ⟨hk,hw⟩⟩
      rcases p2 with h|⟨k,rfl,h⟩
      · exact .inl h
      · exact .inr ⟨k,rfl,h⟩
    have hsame:=c.same (t:=t) p1 (Nat.le_refl _) fun k k1 k2 hw=>by
      have:=p3 k k2 ⟨e1 k k2,hw⟩
      omega
    rw [hsame] at hv
    exact (iv'.tmp t p v hl2 hv).up (fun id x h=>.inl (zOx.1 h).1)
  · rw [f3,s3,← f1];exact s.dr.up iv'.le
  · rw [f3,s4,← f1];exact s.rd.up iv'.le
  · rw [← f2]
    refine { le:=iv'.le,newd:=iv'.newd,rng:=iv'.rng,wr:=?_,frame:=iv'.frame,size:=iv'.size,frz:=iv'.frz,os:=iv'.os,out:=iv'.out,clk:=c.clk,keep:=c.keep0,wle:=c.wle }
    intro b hb hW
    refine iv'.wr ops.size seg b hb ?_
    rw [rho];exact hW
  · exact e3

end Go.Ev
end

section
namespace Go.Ev

def Ends (P:Program) (m:Machine) (fn:FuncId) (rd:Option Nat) (k:List Item) (cs:List Frame):J→Array Value→List Deferred→World→Prop
  | .norm,tm,df,w=>Steps P m (lone (Fr fn rd tm df k) cs w)
  | .exit id,tm,df,w=>∃ k',exitTo id k'=exitTo id k∧Steps P m (lone (Fr fn rd tm df (.code (.exit id) :: k')) cs w)
  | .ret,tm,df,w=>∃ k',Steps P m (lone (Fr fn rd tm df (.code .ret :: k')) cs w)

theorem Ends.of {P:Program} {m m1:Machine} {fn:FuncId} {rd:Option Nat} {k:List Item} {cs:List Frame} {j:J} {tm:Array Value} {df:List Deferred} {w:World} (h:Steps P m m1) (e:Ends P m1 fn rd k cs j tm df w):Ends P m fn rd k cs j tm df w:=by
  cases j with
  | norm=>exact h.trans e
  | exit id=>obtain ⟨k',e1,e2⟩:=e;exact ⟨k',e1,h.trans e2⟩
  | ret=>obtain ⟨k',e2⟩:=e;exact ⟨k',h.trans e2⟩

def Start (c:Code) (todo k:List Item):Prop:=todo = .code c :: k ∨ ∃ b,c = .loop b∧todo = .inLoop b :: k

structure Keeps (fs fs':FS):Prop where
  fn:fs'.fn=fs.fn
  n:fs'.n=fs.n
  round:fs'.round=fs.round
  defs:fs.round.isSome=true→fs'.defs=fs.defs

theorem Keeps.refl (fs:FS):Keeps fs fs:=⟨rfl,rfl,rfl,fun _=>rfl⟩
theorem Keeps.trans {a b c:FS} (h:Keeps a b) (k:Keeps b c):Keeps a c:=⟨k.fn.trans h.fn,k.n.trans h.n,k.round.trans h.round,fun e=>(k.defs (by rw [h.round];exact e)).trans (h.defs e)⟩

def CodeOK (P:Program) (ih:Evs):Prop:=∀ c fs h j fs' h',ih.code c fs h = .ok j fs' h'→Keeps fs fs' ∧ ∀ ρ rd tm df w,St ρ fs h rd tm df w → ∀ todo k cs,Start c todo k →
  ∃ ρ' tm' df' w',St ρ' fs' h' rd tm' df' w'∧Ext ρ h w ρ' h' w'∧Ends P (lone (Fr fs.fn rd tm df todo) cs w) fs.fn rd k cs j tm' df' w'

theorem St.mono {ρ ρ':R} {fs:FS} {h h':H} {rd:Option Nat} {tm:Array Value} {df:List Deferred} {w w':World} (s:St ρ fs h rd tm df w) (hle:R.le ρ ρ') (hr:HR ρ' h' w'):St ρ' fs h' rd tm df w':=
  ⟨s.gr.up hle,s.tr.up hle,hr,s.dr.up hle,s.rd.up hle⟩

theorem opsE_run {P:Program} {ih:Evs} (hi:CallOK P ih) {ops:Array Oper} : ∀ (rest:List Oper) (i:Nat) (fs fs':FS) (h h':H),(∀ j:Nat,rest[j]? = ops[i+j]?)→opsE P ih ops rest fs h = .ok fs' h' →
    Keeps fs fs'∧fs'.defs=fs.defs ∧ ∀ ρ rd tm df w,St ρ fs h rd tm df w → ∀ fn k cs,∃ ρ' tm' w',St ρ' fs' h' rd tm' df w'∧Ext ρ h w ρ' h' w' ∧
      Steps P (lone (Fr fn rd tm df (.inRegion ops (List.range' i rest.length) :: k)) cs w) (lone (Fr fn rd tm' df (.inRegion ops [] :: k)) cs w')
  | [],i,fs,fs',h,h',hl,he=>by
    cases he
    exact ⟨.refl _,rfl,fun ρ rd tm df w s fn k cs=>⟨ρ,tm,w,s,.refl,.refl _ _⟩⟩
  | o :: rest,i,fs,fs',h,h',hl,he=>by
    have hop:ops[i]? = some o:=by have:=hl 0;simp at this;exact this.symm
    have hrest : ∀ j:Nat,rest[j]? = ops[i+1+j]?:=fun j=>by
      have:=hl (j+1)
      rw [List.getElem?_cons_succ] at this
      rw [this];congr 1;omega
    have he':oneE P ih ops o fs h (opsE P ih ops rest) = .ok fs' h':=he
    unfold oneE at he'
    cases hw:wantE ops fs.tm o.guard with
    | none=>rw [hw] at he';cases he'
    | some b=>
      rw [hw] at he'
      have wanted : ∀ ρ rd tm df w,St ρ fs h rd tm df w→Region.wanted o (yielded ops tm)=b:=fun ρ rd tm df w s=>
        xOx (ρ:=ρ) (n:=fs.n) (fun j want oj d _ _ _ v hv=>s.tr.2 d v hv) s.tr.1 hw
      have next : ∀ (v:AV) (h1:H),putE o.dst v fs h1 (opsE P ih ops rest) = .ok fs' h' →
          Keeps fs fs'∧fs'.defs=fs.defs ∧ ∀ ρ rd tm df w,St ρ fs h rd tm df w → ∀ fn k cs ρ1 v' w1,VR ρ1 v v'→HR ρ1 h1 w1→Ext ρ h w ρ1 h1 w1 →
            Steps P (lone (Fr fn rd tm df (.inRegion ops (i :: List.range' (i+1) rest.length) :: k)) cs w) (lone (Fr fn rd (putA tm o.dst v') df (.inRegion ops (List.range' (i+1) rest.length) :: k)) cs w1) →
            ∃ ρ' tm' w',St ρ' fs' h' rd tm' df w'∧Ext ρ h w ρ' h' w'∧Steps P (lone (Fr fn rd tm df (.inRegion ops (i :: List.range' (i+1) rest.length) :: k)) cs w) (lone (Fr fn rd tm' df (.inRegion ops [] :: k)) cs w'):=by
        intro v h1 hp
        rcases putE_some hp with ⟨hd,hk⟩|⟨d,tm2,hd,hlt,hs,hk⟩
        · obtain ⟨a1,a2,a3⟩:=opsE_run hi rest (i+1) fs fs' h1 h' hrest hk
          refine ⟨a1,a2,fun ρ rd tm df w s fn k cs ρ1 v' w1 hv hr ex st=>?_⟩
          rw [hd] at st
          obtain ⟨ρ',tm',w',b1,b2,b3⟩:=a3 ρ1 rd tm df w1 (s.mono ex.le hr) fn k cs
          exact ⟨ρ',tm',w',b1,ex.trans b2,st.trans b3⟩
        · obtain ⟨a1,a2,a3⟩:=opsE_run hi rest (i+1) _ fs' h1 h' hrest hk
          refine ⟨⟨a1.fn,a1.n,a1.round,a1.defs⟩,a2,fun ρ rd tm df w s fn k cs ρ1 v' w1 hv hr ex st=>?_⟩
          rw [hd] at st
          obtain ⟨ρ',tm',w',b1,b2,b3⟩:=a3 ρ1 rd (tm.setIfInBounds d v') df w1 ⟨s.gr.up ex.le,s.tr.put ex.le hlt hs hv,hr,s.dr.up ex.le,s.rd.up ex.le⟩ fn k cs
          exact ⟨ρ',tm',w',b1,ex.trans b2,st.trans b3⟩
      cases b with
      | true=>
        dsimp only [cond] at he'
        cases hx:execE P ih fs.tm o.type o.op h with
        | no=>rw [hx] at he';cases he'
        | ok v h1=>
          rw [hx] at he'
          obtain ⟨a1,a2,a3⟩:=next v h1 he'
          refine ⟨a1,a2,fun ρ rd tm df w s fn k cs=>?_⟩
          obtain ⟨ρ1,v',w1,b1,b2,b3,b4⟩:=xJv hi s.gr s.hr (EvOk.all (a:=⟨tm,df⟩) s.gr s.tr _) hx hop (wanted ρ rd tm df w s) fn rd (List.range' (i+1) rest.length) k cs
          exact a3 ρ rd tm df w s fn k cs ρ1 v' w1 b1 b2 b3 b4
      | false=>
        dsimp only [cond] at he'
        obtain ⟨a1,a2,a3⟩:=next (.tup []) h he'
        refine ⟨a1,a2,fun ρ rd tm df w s fn k cs=>?_⟩
        exact a3 ρ rd tm df w s fn k cs ρ undef w (.tup [] #[] .nil) s.hr .refl (s_opSkip hop (wanted ρ rd tm df w s))

theorem regionE_run {P:Program} {ih:Evs} (hm:P.follows .mixedOrders=true) (hi:CallOK P ih) {id:Nat} {ops:Array Oper} {draw:Bool} {fs fs':FS} {h h':H} (he:regionE P ih ops draw fs h = .ok fs' h') :
    Keeps fs fs' ∧ ∀ ρ rd tm df w,St ρ fs h rd tm df w → ∀ k cs,∃ ρ' tm' w',St ρ' fs' h' rd tm' df w'∧Ext ρ h w ρ' h' w' ∧
      Steps P (lone (Fr fs.fn rd tm df (.code (.region id ops draw) :: k)) cs w) (lone (Fr fs.fn rd tm' df k) cs w'):=by
  cases draw with
  | false=>
    have he':opsE P ih ops ops.toList fs h = .ok fs' h':=he
    obtain ⟨a1,_,a3⟩:=opsE_run hi ops.toList 0 fs fs' h h' (fun j=>by simp) he'
    refine ⟨a1,fun ρ rd tm df w s k cs=>?_⟩
    obtain ⟨ρ',tm',w',b1,b2,b3⟩:=a3 ρ rd tm df w s fs.fn k cs
    have e:List.range' 0 ops.toList.length=List.range ops.size:=by rw [List.range_eq_range'];simp
    rw [e] at b3
    exact ⟨ρ',tm',w',b1,b2,(s_region.trans b3).trans s_regionEnd⟩
  | true=>
    have he':(match drawn ops with|some l=>opsD P ih ops l fs h|none=>.no) = .ok fs' h':=he
    cases hd:drawn ops with
    | none=>rw [hd] at he';cases he'
    | some l=>
      rw [hd] at he'
      obtain ⟨a1,a2,a3,a4,a5⟩:=opsD_run hi hd he'
      refine ⟨⟨a1,a2,a3,fun _=>a4⟩,fun ρ rd tm df w s k cs=>?_⟩
      have hsw:St ρ fs h rd tm df { w with drawn:=w.drawn+1 }:=s.mono (R.le_refl ρ) (s.hr.world rfl)
      obtain ⟨ρ',tm',w',b1,b2,b3⟩:=a5 ρ rd tm df { w with drawn:=w.drawn+1 } hsw fs.fn k cs (w.tape w.drawn (.order fs.fn id))
      refine ⟨ρ',tm',w',b1,(Ext.world (w:=w) (w':={ w with drawn:=w.drawn+1 }) rfl rfl rfl).trans b2,?_⟩
      have hs:=s_draw (P:=P) (fn:=fs.fn) (rd:=rd) (tm:=tm) (df:=df) (k:=k) (cs:=cs) (w:=w) (id:=id) (ops:=ops)
      rw [hm] at hs
      have e:Region.schedule true ops (w.tape w.drawn (.order fs.fn id))=Region.linearise .any ops (w.tape w.drawn (.order fs.fn id)):=by simp [Region.schedule]
      rw [e] at hs
      exact (hs.trans b3).trans s_regionEnd

theorem yZw {P:Program} {ρ : R} {h:H} {w:World} (hr:HR ρ h w) {l:Pos} {b:Nat} {x:Option (Nat × Nat)} (hx : ρ l=some x) (hp : ∀ c n,x=some (c,n)→c=b)
    {st:LoopState} {pend:J} {fn n:Nat} {tm:M AV} {params:Array Tmp} {asg body:Code} {d:Pos} (hg:getObj l h=some (.loop st pend fn n tm params asg body d)) :
    ∃ born tmps db y,x=some (b,0)∧T.get l h.objs=some (born,.loop st pend fn n tm params asg body d)∧TR ρ n tm tmps ∧ ρ d=some y∧(∀ c k,y=some (c,k)→c=db) ∧
      w.heap[b]? = some (.loop { state:=st,pending:=pend.code,fn:=fn,tmps:=tmps,params:=params,assign:=asg,body:=body,defers:=db }) ∧
      (Instr.getLoop b).run P w = .ok { state:=st,pending:=pend.code,fn:=fn,tmps:=tmps,params:=params,assign:=asg,body:=body,defers:=db } w:=by
  obtain ⟨k,born,o',e1,e2,e3,e4⟩:=hr.at hx hp hg (fun e=>by cases e)
  cases e4 with
  | loop _ _ _ _ _ tmps _ _ _ _ db y ht hd hy=>
    exact ⟨born,tmps,db,y,e1,e2,ht,hd,hy,e3,by simp [Instr.getLoop,Go.getObj,Sem.run,e3]⟩

theorem xEy {P:Program} {ρ : R} {h h':H} {w:World} (hr:HR ρ h w) {l:Pos} {b born:Nat} {o:AO} {o2:AO} {c:Obj} (hid : ρ l=some (some (b,0))) (h0:T.get l h.objs=some (born,o)) (hro : ∀ m,o ≠ .ro m) (hc : ∀ a e f,c ≠ .cells a e f)
    (hb:w.heap[b]? = some c) (hs:Ev.setObj l o2 h=some h') {c2:Obj} (ho:OR ρ 0 o2 c2) (hc2 : ∀ a e f,c2 ≠ .cells a e f) :
    ∃ w',(Go.setObj b c2).run P w = .ok () w'∧HR ρ h' w'∧Ext ρ h w ρ h' w'∧w'.heap[b]? = some c2:=by
  have hlt:=(Array.getElem?_eq_some_iff.1 hb).1
  have hcv:=(Array.getElem?_eq_some_iff.1 hb).2
  obtain ⟨a1,a2⟩:=hr.setObj (w':={ w with heap:=w.heap.setIfInBounds b c2 }) hs hid h0 hro ho (by simp) (by simp [hlt]) (fun j hj=>by simp [Array.getElem?_setIfInBounds_ne (Ne.symm hj)]) rfl rfl (fun a=>by
    by_cases ha:a.block=b
    · have e1:w.heap[a.block]? = some c:=by rw [ha];exact hb
      have e2:(w.heap.setIfInBounds b c2)[a.block]? = some c2:=by rw [ha];simp [hlt]
      simp only [World.frozen?,e1,e2]
      cases c <;> first|exact absurd rfl (hc _ _ _)|(cases c2 <;> first|exact absurd rfl (hc2 _ _ _)|rfl)
    · simp [World.frozen?,Array.getElem?_setIfInBounds_ne (Ne.symm ha)])
  refine ⟨_,?_,a1,a2,by simp [hlt]⟩
  simp only [Go.setObj,Sem.run,hb]

theorem xPz {ρ : R} {n:Nat} : ∀ (ps:List Tmp) (args:List AV) (args':List Value) (tm tm2:M AV) (tmps:Array Value),VL ρ args args'→TR ρ n tm tmps→setParams n ps args tm=some tm2 →
    args'.length=ps.length∧TR ρ n tm2 ((ps.zip args').foldl (fun (t:Array Value) (p:Tmp × Value)=>t.setIfInBounds p.1 p.2) tmps)
  | [],[],args',tm,tm2,tmps,ha,ht,h=>by cases ha;cases h;exact ⟨rfl,ht⟩
  | p :: ps,v :: vs,args',tm,tm2,tmps,ha,ht,h=>by
    cases ha with
    | cons _ _ v' vs' hv hvs=>
      have h':(bif Nat.ble (Nat.succ p) n then (match tm.set p v with|some tm=>setParams n ps vs tm|none=>none) else none)=some tm2:=h
      cases hb:Nat.ble (Nat.succ p) n with
      | false=>rw [hb] at h';cases h'
      | true=>
        rw [hb] at h'
        dsimp only [cond] at h'
        cases hs:tm.set p v with
        | none=>rw [hs] at h';cases h'
        | some tm1=>
          rw [hs] at h'
          obtain ⟨a1,a2⟩:=xPz ps vs vs' tm1 tm2 _ hvs (ht.put (R.le_refl ρ) (Nat.le_of_ble_eq_true hb) hs hv) h'
          exact ⟨by simp [a1],a2⟩
  | [],_ :: _,_,_,_,_,_,_,h=>by cases h
  | _ :: _,[],_,_,_,_,_,_,h=>by cases h


theorem rangeE_run {P:Program} {ih:Evs} (hi:CallOK P ih) {f:Operand} {params:Array Tmp} {asg body:Code} {fs fs':FS} {h h':H} {j:J} (he:rangeE P ih f params asg body fs h = .ok j fs' h') :
    Keeps fs fs' ∧ ∀ ρ rd tm df w,St ρ fs h rd tm df w → ∀ k cs,∃ ρ' df' w',St ρ' fs' h' rd tm df' w'∧Ext ρ h w ρ' h' w' ∧
      Steps P (lone (Fr fs.fn rd tm df (.code (.rangeFunc f params asg body) :: k)) cs w) (lone (Fr fs.fn rd tm df' ((j.code.map Item.code).toList++k)) cs w'):=by
  obtain ⟨fn,n,tmA,defs,round⟩:=fs
  unfold rangeE at he
  dsimp only at he
  cases hf:evT tmA f with
  | none=>rw [hf] at he;cases he
  | some fv=>
    rw [hf] at he
    dsimp only at he

    have loop : ∀ (d:Pos) (defs2:List Pos) (h1:H),loopE P ih fv params asg body d ⟨fn,n,tmA,defs2,round⟩ h1 = .ok j fs' h' →
        fs'=⟨fn,n,tmA,defs2,round⟩ ∧ ∀ ρ rd tm df w df2 ρ1 w1 db y mark,St ρ ⟨fn,n,tmA,defs,round⟩ h rd tm df w→R.le ρ ρ1→HR ρ1 h1 w1→DR ρ1 defs2 df2→df2=mark++df → ρ1 d=some y→(∀ c k,y=some (c,k)→c=db)→Ext ρ h w ρ1 h1 w1 →
          (Instr.enterLoop fn tm params asg body rd).run P w = .ok (w1.heap.size,mark) { w1 with heap:=w1.heap.push (.loop { state:=.ready,pending:=none,fn:=fn,tmps:=tm,params:=params,assign:=asg,body:=body,defers:=db }) } →
          ∀ k cs,∃ ρ' w',St ρ' fs' h' rd tm df2 w'∧Ext ρ h w ρ' h' w' ∧
            Steps P (lone (Fr fn rd tm df (.code (.rangeFunc f params asg body) :: k)) cs w) (lone (Fr fn rd tm df2 ((j.code.map Item.code).toList++k)) cs w'):=by
      intro d defs2 h1 hl
      unfold loopE at hl
      dsimp only at hl
      cases hn:Ev.newObj (.loop .ready .norm fn n tmA params asg body d) h1 with
      | none=>rw [hn] at hl;cases hl
      | some lh=>
        obtain ⟨l,h2⟩:=lh
        rw [hn] at hl
        dsimp only at hl
        cases hc:callV P ih fv [.yld l] h2 with
        | no=>rw [hc] at hl;cases hl
        | ok v h3=>
          rw [hc] at hl
          have hl':endLoopE l ⟨fn,n,tmA,defs2,round⟩ (.ok v h3) = .ok j fs' h':=hl
          unfold endLoopE at hl'
          dsimp only at hl'
          cases hg:Ev.getObj l h3 with
          | none=>rw [hg] at hl';cases hl'
          | some o=>
            rw [hg] at hl'
            cases o with
            | loop st pend fn3 n3 tm3 params3 asg3 body3 d3=>
              dsimp only at hl'
              have hst:st ≠ .busy:=fun e=>by subst e;cases hl'
              have hl2:(match Ev.setObj l (.loop .exhausted pend fn3 n3 tm3 params3 asg3 body3 d3) h3 with|some h=>RJ.ok pend ⟨fn,n,tmA,defs2,round⟩ h|none=>RJ.no) = .ok j fs' h':=by
                cases st <;> first|exact hl'|exact absurd rfl hst
              cases hs:Ev.setObj l (.loop .exhausted pend fn3 n3 tm3 params3 asg3 body3 d3) h3 with
              | none=>rw [hs] at hl2;cases hl2
              | some h4=>
                rw [hs] at hl2
                cases hl2
                refine ⟨rfl,?_⟩
                intro ρ rd tm df w df2 ρ1 w1 db y mark s hle hr1 hdr hdf hy hyp ex hent k cs
                obtain ⟨hfr,hr2,ex2⟩:=hr1.newObj hn (OR.loop .ready .norm fn n tmA tm params asg body d db y ((s.tr.up hle).up (R.le_refl _)) hy hyp |> fun o=>o) (fun i=>by simp [World.frozen?])
                have hlρ : (ρ1.new l (some (w1.heap.size,0))) l=some (some (w1.heap.size,0)):=by simp [R.new]
                have hle2:R.le ρ1 (ρ1.new l (some (w1.heap.size,0))):=ex2.le
                have hgr2:=(s.gr.up hle).up hle2
                have hfv:=(evT_vr (a:=⟨tm,df⟩) s.gr s.tr hf).up (R.le_trans hle hle2)
                have hargs:VL (ρ1.new l (some (w1.heap.size,0))) [.yld l] (#[Value.func (.yield w1.heap.size) #[] #[]]:Array Value).toList:=.cons _ _ _ _ (.yld l w1.heap.size _ hlρ (fun c k e=>by cases e;rfl)) .nil

                have back : ∀ ρ3 v' w3,VR ρ3 v v'→HR ρ3 h3 w3→Ext (ρ1.new l (some (w1.heap.size,0))) h2 { w1 with heap:=w1.heap.push (.loop { state:=.ready,pending:=none,fn:=fn,tmps:=tm,params:=params,assign:=asg,body:=body,defers:=db }) } ρ3 h3 w3 →
                    ∃ ρ' w',St ρ' ⟨fn,n,tmA,defs2,round⟩ h' rd tm df2 w'∧Ext ρ h w ρ' h' w' ∧
                      Steps P (lone (Fr fn rd tm df2 (.endRangeFunc w1.heap.size :: k)) cs w3) (lone (Fr fn rd tm df2 ((j.code.map Item.code).toList++k)) cs w'):=by
                  intro ρ3 v' w3 hv hr3 ex3
                  obtain ⟨y3,hy3,hyp3⟩:=up1 (p:=fun c _=>c=w1.heap.size) ex3.le hlρ (fun c k e=>by cases e;rfl)
                  obtain ⟨born,tmps3,db3,z,q1,q2,q3,q4,q5,q6,q7⟩:=yZw (P:=P) hr3 hy3 hyp3 hg
                  obtain ⟨w4,r1,r2,r3,r4⟩:=xEy (P:=P) hr3 (hy3.trans (by rw [q1])) q2 (fun m e=>by cases e) (fun _ _ _ e=>by cases e) q6 hs (OR.loop .exhausted j fn3 n3 tm3 tmps3 params3 asg3 body3 d3 db3 z q3 q4 q5) (fun _ _ _ e=>by cases e)
                  have hle3:R.le ρ ρ3:=R.le_trans (R.le_trans hle hle2) ex3.le
                  refine ⟨ρ3,w4,⟨s.gr.up hle3,s.tr.up hle3,r2,hdr.up (R.le_trans hle2 ex3.le),s.rd.up hle3⟩,((ex.trans ex2).trans ex3).trans r3,?_⟩
                  refine s_endLoop (jump:=j.code) ?_
                  refine (zKz q7).trans ?_
                  have hb:((st == LoopState.busy)=true)=False:=by
                    simp;exact hst
                  rw [if_neg (by rw [hb];exact id)]
                  refine (zKz r1).trans ?_
                  rfl
                have hres : ∀ w,(do let d ← resolve (⟨tm,df⟩:Act).eval { callee:=.value f,args:=#[.const (.func (.yield w1.heap.size) #[] #[])],argTypes:=#[] } 0;invoke d.target d.args:Sem Next).run P w =
                    (do let d ← Deferred.ofValue ((⟨tm,df⟩:Act).eval f) #[Value.func (.yield w1.heap.size) #[] #[]];invoke d.target d.args:Sem Next).run P w:=fun w=>by simp [resolve,Act.eval]
                rcases callV_run hi hgr2 hr2 hfv hargs hc with ⟨g,as,e1,e2⟩|⟨b,g,tm4,asg4,body4,e1,e2⟩
                · obtain ⟨ρ3,v',w3,k1,k2,k3,k4⟩:=e2 (Fr fn rd tm (mark++df) (.inRangeFunc w1.heap.size :: k)) cs
                  rw [xZx] at k4
                  obtain ⟨ρ',w',m1,m2,m3⟩:=back ρ3 v' w3 k1 k2 k3
                  rw [hdf] at m3 ⊢
                  exact ⟨ρ',w',hdf ▸ m1,m2,((s_rangeFn hent ((hres _).trans e1)).trans k4).trans m3⟩
                · obtain ⟨ρ3,v',w3,k1,k2,k3,k4⟩:=e2 (Fr fn rd tm (mark++df) (.inRangeFunc w1.heap.size :: k)) cs
                  rw [xZx] at k4
                  obtain ⟨ρ',w',m1,m2,m3⟩:=back ρ3 v' w3 k1 k2 k3
                  rw [hdf] at m3 ⊢
                  exact ⟨ρ',w',hdf ▸ m1,m2,((s_rangeYld hent ((hres _).trans e1)).trans k4).trans m3⟩
            | _=>cases hl'
    cases round with
    | none=>
      dsimp only at he
      cases hn:Ev.newObj .dfr h with
      | none=>rw [hn] at he;cases he
      | some dh=>
        obtain ⟨d,h1⟩:=dh
        rw [hn] at he
        dsimp only at he
        obtain ⟨rfl,main⟩:=loop d (d :: defs) h1 he
        refine ⟨⟨rfl,rfl,rfl,fun e=>by cases e⟩,fun ρ rd tm df w s k cs=>?_⟩
        have hrd:rd=none:=by cases s.rd;rfl
        subst hrd
        obtain ⟨_,hr1,ex1⟩:=s.hr.newObj hn OR.dfr (fun i=>by simp [World.frozen?])
        have hdρ : (ρ.new d (some (w.heap.size,0))) d=some (some (w.heap.size,0)):=by simp [R.new]
        obtain ⟨ρ',w',m1,m2,m3⟩:=main ρ none tm df w ({ target:=.collected w.heap.size,args:=#[] } :: df) _ _ w.heap.size _ [{ target:=.collected w.heap.size,args:=#[] }] s ex1.le hr1
          (.cons d defs w.heap.size df _ hdρ (fun c k e=>by cases e;rfl) (s.dr.up ex1.le)) rfl hdρ (fun c k e=>by cases e;rfl) ex1 (by simp [Instr.enterLoop];rfl) k cs
        exact ⟨ρ',_,w',m1,m2,m3⟩
    | some l=>
      dsimp only at he
      cases hg:Ev.getObj l h with
      | none=>rw [hg] at he;cases he
      | some o=>
        rw [hg] at he
        cases o with
        | loop st pend fn3 n3 tm3 params3 asg3 body3 d3=>
          dsimp only at he
          obtain ⟨rfl,main⟩:=loop d3 defs h he
          refine ⟨⟨rfl,rfl,rfl,fun _=>rfl⟩,fun ρ rd tm df w s k cs=>?_⟩
          have hrd:=s.rd
          cases hrd with
          | some _ b x hx hp=>
            obtain ⟨born,tmps3,db3,z,q1,q2,q3,q4,q5,q6,q7⟩:=yZw (P:=P) s.hr hx hp hg
            obtain ⟨ρ',w',m1,m2,m3⟩:=main ρ (some b) tm df w df ρ w db3 z [] s (R.le_refl ρ) s.hr s.dr rfl q4 q5 .refl (by simp [Instr.enterLoop,q7]) k cs
            exact ⟨ρ',df,w',m1,m2,m3⟩
        | _=>cases he

end Go.Ev
end

section
namespace Go.Ev

theorem retE_some {P:Program} {rs:List ResultVar} {tm:M AV} {h h':H} {v:AV} (e:retE P rs tm h = .ok v h'):h'=h ∧ ∃ vs,resultsE P tm h rs=some vs∧((∃ u,vs=[u]∧v=u)∨(vs.length≠1∧v = .tup vs)):=by
  unfold retE at e
  cases hr:resultsE P tm h rs with
  | none=>rw [hr] at e;cases e
  | some vs=>
    rw [hr] at e
    cases vs with
    | nil=>cases e;exact ⟨rfl,[],rfl,.inr ⟨by simp,rfl⟩⟩
    | cons a l=>cases l with
      | nil=>cases e;exact ⟨rfl,[v],rfl,.inl ⟨v,rfl,rfl⟩⟩
      | cons b l=>cases e;exact ⟨rfl,_,rfl,.inr ⟨by simp,rfl⟩⟩

theorem xWv {P:Program} {ρ : R} {n:Nat} {tm:M AV} {tmps:Array Value} {h:H} {w:World} (ht:TR ρ n tm tmps) (hr:HR ρ h w) : ∀ {rs:List ResultVar} {vs:List AV},resultsE P tm h rs=some vs →
    ∃ vs',(rs.mapM (fun|.tmp t=>pure (tmps.getD t undef)|.cell a t=>do loadVar t (← asAddr (tmps.getD a undef)):ResultVar→Sem Value)).run P w = .ok vs' w∧VL ρ vs vs'
  | [],vs,e=>by cases e;exact ⟨[],rfl,.nil⟩
  | r :: rs,vs,e=>by
    unfold resultsE at e
    cases h1:resultE P tm h r with
    | none=>rw [h1] at e;cases e
    | some v=>
      rw [h1] at e
      dsimp only at e
      cases h2:resultsE P tm h rs with
      | none=>rw [h2] at e;cases e
      | some us=>
        rw [h2] at e
        cases e
        obtain ⟨us',g1,g2⟩:=xWv ht hr h2
        have one : ∃ v',((fun|.tmp t=>pure (tmps.getD t undef)|.cell a t=>do loadVar t (← asAddr (tmps.getD a undef)):ResultVar→Sem Value) r).run P w = .ok v' w∧VR ρ v v':=by
          cases r with
          | tmp t=>exact ⟨_,rfl,ht.2 t v h1⟩
          | cell a t=>
            unfold resultE at h1
            dsimp only at h1
            cases h3:tm.get a with
            | none=>rw [h3] at h1;cases h1
            | some p=>
              rw [h3] at h1
              obtain ⟨b,off,e1,v',e2,e3⟩:=loadE_var (P:=P) hr (ht.2 a p h3) h1
              refine ⟨v',?_,e3⟩
              show (asAddr (tmps.getD a undef) >>= fun x=>loadVar t x).run P w=_
              rw [e1]
              exact (zKz (a:=⟨b,off,none⟩) (w1:=w) rfl).trans e2
        obtain ⟨v',e1,e2⟩:=one
        refine ⟨v' :: us',?_,.cons _ _ _ _ e2 g2⟩
        rw [List.mapM_cons]
        refine (zKz e1).trans ?_
        refine (zKz g1).trans ?_
        rfl

theorem results_run {P:Program} {ρ : R} {n:Nat} {tm:M AV} {tmps:Array Value} {h h':H} {w:World} {fn:Func} {v:AV} (ht:TR ρ n tm tmps) (hr:HR ρ h w) (e:retE P fn.results.toList tm h = .ok v h') :
    ∃ v',(results fn tmps).run P w = .ok v' w∧VR ρ v v':=by
  obtain ⟨_,vs,e1,e2⟩:=retE_some e
  obtain ⟨vs',g1,g2⟩:=xWv (P:=P) ht hr e1
  have hm:(fn.results.mapM (fun|.tmp t=>pure (tmps.getD t undef)|.cell a t=>do loadVar t (← asAddr (tmps.getD a undef)):ResultVar→Sem Value)).run P w = .ok vs'.toArray w:=by
    rw [Array.mapM_eq_mapM_toList,Sem.run_map,g1];rfl
  have hrun:(results fn tmps).run P w = .ok (if h:vs'.toArray.size=1 then vs'.toArray[0] else .tuple vs'.toArray) w:=by
    unfold results
    exact (zKz hm).trans rfl
  refine ⟨_,hrun,?_⟩
  have hl:=g2.length
  rcases e2 with ⟨u,rfl,rfl⟩|⟨hne,rfl⟩
  · cases g2 with
    | cons _ _ u' _ hu hn=>cases hn;simpa using hu
  · have : ¬ vs'.toArray.size=1:=by simp;omega
    rw [dif_neg this]
    exact .tup _ _ (by simpa using g2)

theorem takeAll_run {P:Program} {ρ : R} {fn:FuncId} {tm:Array Value} {todo:List Item} {cs:List Frame} : ∀ {ds:List Pos} {dfs:List Deferred} {h h':H} {w:World},DR ρ ds dfs→HR ρ h w→takeAll ds h=some h' →
    ∃ w',HR ρ h' w'∧Ext ρ h w ρ h' w'∧Steps P (lone { Fr fn none tm dfs todo with mode:=.returning } cs w) (lone { Fr fn none tm [] todo with mode:=.returning } cs w')
  | [],_,h,h',w,hd,hr,e=>by cases hd;cases e;exact ⟨w,hr,.refl,.refl _ _⟩
  | d :: ds,_,h,h',w,hd,hr,e=>by
    cases hd with
    | cons _ _ b dfs x hx hp hds=>
      unfold takeAll at e
      cases hg:Ev.getObj d h with
      | none=>rw [hg] at e;cases e
      | some o=>
        rw [hg] at e
        cases o with
        | dfr=>
          dsimp only at e
          cases hs:Ev.setObj d .taken h with
          | none=>rw [hs] at e;cases e
          | some h1=>
            rw [hs] at e
            dsimp only at e
            obtain ⟨k,born,o',e1,e2,e3,e4⟩:=hr.at hx hp hg (fun e=>by cases e)
            have hk:k=0∧o' = .deferred (some []):=by cases e4;exact ⟨rfl,rfl⟩
            obtain ⟨rfl,rfl⟩:=hk
            obtain ⟨w1,r1,r2,r3,_⟩:=xEy (P:=P) hr (hx.trans (by rw [e1])) e2 (fun m e=>by cases e) (fun _ _ _ e=>by cases e) e3 hs (c2:=.deferred none) OR.taken (fun _ _ _ e=>by cases e)
            obtain ⟨w2,q1,q2,q3⟩:=takeAll_run hds r2 e
            refine ⟨w2,q1,r3.trans q2,(s_take ?_).trans q3⟩
            refine (zKz (a:=.deferred (some [])) (w1:=w) (by simp [Go.getObj,Sem.run,e3])).trans ?_
            refine (zKz r1).trans ?_
            rfl
        | _=>cases e

theorem undefRows (i:Nat) (v:AV) (h:baseRows.get i=some v):v = .tup []:=by
  rw [M.get_eq] at h
  cases hr:baseRows[i / 8]? with
  | none=>rw [hr] at h;cases h
  | some row=>
    rw [hr] at h
    have hrow:row=undefRow:=by
      have hm:=List.mem_of_getElem? hr
      have : ∀ r ∈ baseRows,r=undefRow:=by
        intro r hr
        simp [baseRows] at hr
        exact hr
      exact this row hm
    subst hrow
    have hm:=List.mem_of_getElem? (show undefRow[i % 8]? = some v from h)
    simp [undefRow] at hm
    exact hm

theorem fillM_run {ρ : R} {n:Nat} : ∀ {args:List AV} {args':List Value},VL ρ args args' → ∀ {i:Nat} {m m':M AV} {tmps:Array Value},fillM m i args=some m'→i+args'.length≤n→TR ρ n m tmps →
    TR ρ n m' ((args'.zipIdx i).foldl (fun (t:Array Value) (p:Value × Nat)=>t.setIfInBounds p.2 p.1) tmps)
  | _,_,.nil,i,m,m',tmps,h,_,ht=>by cases h;exact ht
  | _,_,.cons v vs v' vs' hv hvs,i,m,m',tmps,h,hl,ht=>by
    simp only [List.length_cons] at hl
    unfold fillM at h
    cases hs:m.set i v with
    | none=>rw [hs] at h;cases h
    | some m1=>
      rw [hs] at h
      simp only [List.zipIdx_cons,List.foldl_cons]
      have hi:i<n:=by omega
      have hi2:i+1+vs'.length≤n:=by omega
      exact fillM_run hvs (i:=i+1) h hi2 (ht.put (R.le_refl ρ) hi hs hv)

theorem fold_args (vs:List Value) : ∀ (i:Nat) (a:List Value) (n:Nat),a.length=i→((vs.zipIdx i).foldl (fun (t:Array Value) (p:Value × Nat)=>t.setIfInBounds p.2 p.1) (a++List.replicate (vs.length+n) undef).toArray)=(a++vs++List.replicate n undef).toArray:=by
  induction vs with
  | nil=>intro i a n _;simp
  | cons v vs ih=>
    intro i a n hi
    simp only [List.zipIdx_cons,List.foldl_cons]
    have e:((a++List.replicate ((v :: vs).length+n) undef).toArray.setIfInBounds i v)=((a++[v])++List.replicate (vs.length+n) undef).toArray:=by
      simp only [List.setIfInBounds_toArray,List.length_cons]
      congr 1
      rw [show vs.length+1+n=(vs.length+n)+1 from by omega,List.replicate_succ,← hi]
      simp [List.set_append]
    rw [e,ih (i+1) (a++[v]) n (by simp [hi])]
    simp

theorem enter_run {P:Program} {ρ : R} {g:FuncId} {fn:Func} {body:Code} (hfn:P.funcs[g]? = some fn) (hb:fn.body=some body) {args:List AV} {args':Array Value} (ha:VL ρ args args'.toList) (hl:args.length≤fn.ntmps)
    {m:M AV} (hm:fillM baseRows 0 args=some m) : ∃ tmps,Frame.enter P g args' .normal=Fr g none tmps [] [.code body]∧TR ρ fn.ntmps m tmps:=by
  have hlen:=ha.length
  simp at hlen
  refine ⟨args'++Array.replicate (fn.ntmps - args'.size) undef,by simp [Frame.enter,Fr,hfn,hb],?_⟩
  have h0:TR ρ fn.ntmps baseRows (Array.replicate fn.ntmps undef):=⟨by simp,fun i v hv=>by
    have:=undefRows i v hv
    subst this
    have:(Array.replicate fn.ntmps undef).getD i undef=undef:=by
      by_cases h:i<fn.ntmps <;> simp [Array.getD,h]
    rw [this]
    exact .tup [] #[] .nil⟩
  have h1:=fillM_run ha hm (by simp;omega) h0
  have e:=fold_args args'.toList 0 [] (fn.ntmps - args'.size) rfl
  have e2:(Array.replicate fn.ntmps undef)=([]++List.replicate (args'.toList.length+(fn.ntmps - args'.size)) undef).toArray:=by
    simp;congr 1;omega
  rw [e2,e] at h1
  have e3:([]++args'.toList++List.replicate (fn.ntmps - args'.size) undef).toArray=args'++Array.replicate (fn.ntmps - args'.size) undef:=by
    simp
  rw [e3] at h1
  exact h1

theorem leaveE_some {P:Program} {rs:List ResultVar} {r:RJ} {v:AV} {h':H} (e:leaveE P rs r = .ok v h') : ∃ j fs h1 h2,r = .ok j fs h1∧(∀ id,j ≠ .exit id)∧takeAll fs.defs h1=some h2∧retE P rs fs.tm h2 = .ok v h':=by
  cases r with
  | no=>cases e
  | ok j fs h1=>
    obtain ⟨fn,n,tm,defs,round⟩:=fs
    have main:(match takeAll defs h1 with|some h=>retE P rs tm h|none=>.no) = .ok v h' → ∃ h2,takeAll defs h1=some h2∧retE P rs tm h2 = .ok v h':=by
      intro e
      cases ht:takeAll defs h1 with
      | none=>rw [ht] at e;cases e
      | some h2=>rw [ht] at e;exact ⟨h2,rfl,e⟩
    cases j with
    | exit id=>cases e
    | norm=>obtain ⟨h2,a,b⟩:=main e;exact ⟨_,_,_,h2,rfl,(fun id e=>by cases e),a,b⟩
    | ret=>obtain ⟨h2,a,b⟩:=main e;exact ⟨_,_,_,h2,rfl,(fun id e=>by cases e),a,b⟩

theorem callFnE_run {P:Program} {ih:Evs} (hc:CodeOK P ih) {g:FuncId} {args:List AV} {h h':H} {v:AV} (e:callFnE P ih g args h = .ok v h'):TgtOK P (.fn g args) h v h':=by
  intro ρ args' w hg hr ha cs
  unfold callFnE at e
  cases hfn:P.funcs[g]? with
  | none=>rw [hfn] at e;cases e
  | some fn=>
    rw [hfn] at e
    dsimp only at e
    cases hb:fn.body with
    | none=>rw [hb] at e;cases e
    | some body=>
      rw [hb] at e
      dsimp only at e
      cases hl:(Nat.ble args.length fn.ntmps && Nat.ble fn.ntmps 384) with
      | false=>rw [hl] at e;cases e
      | true=>
        rw [hl] at e
        dsimp only [cond] at e
        rw [Bool.and_eq_true] at hl
        cases hm:fillM baseRows 0 args with
        | none=>rw [hm] at e;cases e
        | some m=>
          rw [hm] at e
          dsimp only at e
          rw [zLw] at e
          obtain ⟨j,fs,h1,h2,e1,e2,e3,e4⟩:=leaveE_some e
          obtain ⟨tmps,t1,t2⟩:=enter_run hfn hb ha (Nat.le_of_ble_eq_true hl.1) hm
          obtain ⟨kp,main⟩:=hc _ _ _ _ _ _ e1
          obtain ⟨ρ1,tm1,df1,w1,s1,ex1,en⟩:=main ρ none tmps [] w ⟨hg,t2,hr,.nil,.none⟩ [.code body] [] cs (.inl rfl)
          rw [t1]

          have stop : ∃ todo,Steps P (lone (Fr g none tmps [] [.code body]) cs w) (lone { Fr g none tm1 df1 todo with mode:=.returning } cs w1):=by
            cases j with
            | norm=>exact ⟨[],Steps.trans en s_end⟩
            | ret=>obtain ⟨k',st⟩:=en;exact ⟨_,st.trans s_ret⟩
            | exit id=>exact absurd rfl (e2 id)
          obtain ⟨todo,st⟩:=stop
          obtain ⟨w2,q1,q2,q3⟩:=takeAll_run (P:=P) (fn:=g) (tm:=tm1) (todo:=todo) (cs:=cs) s1.dr s1.hr e3
          obtain ⟨v',r1,r2⟩:=results_run (P:=P) s1.tr q1 e4
          have hh:h'=h2:=(retE_some e4).1
          subst hh
          exact ⟨ρ1,v',w2,_,r2,q1,ex1.trans q2,st.trans q3,rfl,rfl,rfl,rfl,fn,hfn,r1⟩

theorem callYldE_run {P:Program} {ih:Evs} (hc:CodeOK P ih) {l:Pos} {args:List AV} {h h':H} {v:AV} (e:callYldE ih l args h = .ok v h'):TgtOK P (.yld l args) h v h':=by
  intro ρ args' w b x hg hr ha hx hp
  unfold callYldE at e
  cases hgl:Ev.getObj l h with
  | none=>rw [hgl] at e;cases e
  | some o=>
    rw [hgl] at e
    cases o with
    | loop st pend fn n tm params asg body d=>
      dsimp only at e
      cases hsp:setParams n params.toList args tm with
      | none=>rw [hsp] at e;cases e
      | some tm2=>
        rw [hsp] at e
        dsimp only at e
        obtain ⟨born,tmps,db,y,q1,q2,q3,q4,q5,q6,q7⟩:=yZw (P:=P) hr hx hp hgl
        obtain ⟨p1,p2⟩:=xPz params.toList args args'.toList tm tm2 tmps ha q3 hsp
        refine ⟨fn,(params.zip args').foldl (fun tmps (x:Tmp × Value)=>match x with|(t,a)=>tmps.setIfInBounds t a) tmps,asg,body,?_,fun c cs=>?_⟩
        · refine (zKz q7).trans ?_
          have hsz : ¬ (args'.size≠params.size):=by simp at p1;simp [p1]
          rw [if_neg hsz]
          rfl
        · have hfold:((params.zip args').foldl (fun tmps (x:Tmp × Value)=>match x with|(t,a)=>tmps.setIfInBounds t a) tmps)=((params.toList.zip args'.toList).foldl (fun (t:Array Value) (p:Tmp × Value)=>t.setIfInBounds p.1 p.2) tmps):=by
            rw [← Array.foldl_toList,Array.toList_zip]
          show ∃ ρ' v' w',VR ρ' v v'∧HR ρ' h' w'∧Ext ρ h w ρ' h' w'∧Steps P (lone (Fr fn (some b) ((params.zip args').foldl (fun tmps (x:Tmp × Value)=>match x with|(t,a)=>tmps.setIfInBounds t a) tmps) [] [.code asg,.beginRound,.code body]) (c :: cs) w) (lone (c.finish v') cs w')
          rw [hfold]
          generalize ((params.toList.zip args'.toList).foldl (fun (t:Array Value) (p:Tmp × Value)=>t.setIfInBounds p.1 p.2) tmps)=tmps2 at p2

          cases he1:ih.code asg ⟨fn,n,tm2,[],some l⟩ h with
          | no=>rw [he1] at e;cases e
          | ok j1 fs1 h1=>
            rw [he1] at e
            cases j1 with
            | exit id=>cases e
            | ret=>cases e
            | norm=>
              obtain ⟨kp1,main1⟩:=hc _ _ _ _ _ _ he1
              obtain ⟨ρ1,tm1,df1,w1,s1,ex1,en1⟩:=main1 ρ (some b) tmps2 [] w ⟨hg,p2,hr,.nil,.some l b x hx hp⟩ [.code asg,.beginRound,.code body] [.beginRound,.code body] (c :: cs) (.inl rfl)
              have hdf1:df1=[]:=by have:=s1.dr;rw [kp1.defs rfl] at this;cases this;rfl
              subst hdf1
              have e':(match Ev.getObj l h1 with
                  | some (.loop .ready pend fn n tm params assign body' d)=>match Ev.setObj l (.loop .busy pend fn n tm params assign body' d) h1 with
                    | some h=>endRoundE l (ih.code body fs1 h)
                    | none=>.no
                  | _=>.no)=RV.ok v h':=e
              cases hg1:Ev.getObj l h1 with
              | none=>rw [hg1] at e';cases e'
              | some o1=>
                rw [hg1] at e'
                cases o1 with
                | loop st1 pend1 fn1 n1 tmA params1 asg1 body1 d1=>
                  cases st1 with
                  | ready=>
                    dsimp only at e'
                    cases hs1:Ev.setObj l (.loop .busy pend1 fn1 n1 tmA params1 asg1 body1 d1) h1 with
                    | none=>rw [hs1] at e';cases e'
                    | some h2=>
                      rw [hs1] at e'
                      dsimp only at e'
                      obtain ⟨y1,hy1,hyp1⟩:=up1 (p:=fun c _=>c=b) ex1.le hx hp
                      obtain ⟨born1,tmps1,db1,z1,a1,a2,a3,a4,a5,a6,a7⟩:=yZw (P:=P) s1.hr hy1 hyp1 hg1
                      obtain ⟨w2,r1,r2,r3,r4⟩:=xEy (P:=P) s1.hr (hy1.trans (by rw [a1])) a2 (fun m e=>by cases e) (fun _ _ _ e=>by cases e) a6 hs1 (OR.loop .busy pend1 fn1 n1 tmA tmps1 params1 asg1 body1 d1 db1 z1 a3 a4 a5) (fun _ _ _ e=>by cases e)
                      have begin:(Instr.beginRound b).run P w1 = .ok () w2:=by
                        refine (zKz a7).trans ?_
                        refine (zKz r1).trans ?_
                        rfl

                      cases he2:ih.code body fs1 h2 with
                      | no=>rw [he2] at e';cases e'
                      | ok j2 fs2 h3=>
                        rw [he2] at e'
                        obtain ⟨kp2,main2⟩:=hc _ _ _ _ _ _ he2
                        have hfn:fs1.fn=fn:=kp1.fn
                        obtain ⟨ρ3,tm3,df3,w3,s3,ex3,en3⟩:=main2 ρ1 (some b) tm1 [] w2 (s1.mono (R.le_refl _) r2) [.code body] [] (c :: cs) (.inl rfl)
                        rw [hfn] at en3
                        have hr1:fs1.round=some l:=kp1.round
                        have hdf3:df3=[]:=by
                          have:=s3.dr
                          rw [kp2.defs (by rw [hr1];rfl),kp1.defs rfl] at this
                          cases this
                          rfl
                        subst hdf3
                        obtain ⟨y3,hy3,hyp3⟩:=up1 (p:=fun c _=>c=b) ex3.le hy1 hyp1

                        have e3 : ∃ st3 pend3 fn3 n3 tmB params3 asg3 body3 d3,Ev.getObj l h3=some (.loop st3 pend3 fn3 n3 tmB params3 asg3 body3 d3) ∧
                            Ev.setObj l (.loop (if j2.code.isNone then .ready else .done) j2 fn3 n3 tmB params3 asg3 body3 d3) h3=some h'∧v = .bool j2.code.isNone:=by
                          have e4:endRoundE l (.ok j2 fs2 h3) = .ok v h':=e'
                          unfold endRoundE at e4
                          dsimp only at e4
                          cases hg3:Ev.getObj l h3 with
                          | none=>rw [hg3] at e4;cases e4
                          | some o3=>
                            rw [hg3] at e4
                            cases o3 with
                            | loop st3 pend3 fn3 n3 tmB params3 asg3 body3 d3=>
                              refine ⟨st3,pend3,fn3,n3,tmB,params3,asg3,body3,d3,rfl,?_⟩
                              cases j2 with
                              | norm=>
                                dsimp only at e4
                                cases hs3:Ev.setObj l (.loop .ready .norm fn3 n3 tmB params3 asg3 body3 d3) h3 with
                                | none=>rw [hs3] at e4;cases e4
                                | some h4=>rw [hs3] at e4;cases e4;exact ⟨hs3,rfl⟩
                              | exit id=>
                                dsimp only at e4
                                cases hs3:Ev.setObj l (.loop .done (.exit id) fn3 n3 tmB params3 asg3 body3 d3) h3 with
                                | none=>rw [hs3] at e4;cases e4
                                | some h4=>rw [hs3] at e4;cases e4;exact ⟨hs3,rfl⟩
                              | ret=>
                                dsimp only at e4
                                cases hs3:Ev.setObj l (.loop .done .ret fn3 n3 tmB params3 asg3 body3 d3) h3 with
                                | none=>rw [hs3] at e4;cases e4
                                | some h4=>rw [hs3] at e4;cases e4;exact ⟨hs3,rfl⟩
                            | _=>cases e4
                        obtain ⟨st3,pend3,fn3,n3,tmB,params3,asg3,body3,d3,hg3,hs3,rfl⟩:=e3
                        obtain ⟨born3,tmps3,db3,z3,b1,b2,b3,b4,b5,b6,b7⟩:=yZw (P:=P) s3.hr hy3 hyp3 hg3
                        obtain ⟨w4,c1,c2,c3,c4⟩:=xEy (P:=P) s3.hr (hy3.trans (by rw [b1])) b2 (fun m e=>by cases e) (fun _ _ _ e=>by cases e) b6 hs3 (OR.loop (if j2.code.isNone then .ready else .done) j2 fn3 n3 tmB tmps3 params3 asg3 body3 d3 db3 z3 b3 b4 b5) (fun _ _ _ e=>by cases e)
                        have endR:(Instr.endRound b j2.code).run P w3 = .ok (.bool j2.code.isNone) w4:=by
                          refine (zKz b7).trans ?_
                          refine (zKz c1).trans ?_
                          rfl
                        have pre:Steps P (lone (Fr fn (some b) tmps2 [] [.code asg,.beginRound,.code body]) (c :: cs) w) (lone (Fr fn (some b) tm1 [] [.code body]) (c :: cs) w2):=Steps.trans en1 (s_beginRound begin)
                        refine ⟨ρ3,.bool j2.code.isNone,w4,.bool _,c2,((ex1.trans r3).trans ex3).trans c3,pre.trans ?_⟩
                        cases j2 with
                        | norm=>exact Steps.trans en3 (xSy (k:=[]) (.inl ⟨rfl,rfl⟩) endR)
                        | ret=>obtain ⟨k',st⟩:=en3;exact st.trans (xSy (.inr (.inl ⟨rfl,rfl⟩)) endR)
                        | exit id=>obtain ⟨k',hk,st⟩:=en3;exact st.trans (xSy (.inr (.inr ⟨id,rfl,hk,rfl⟩)) endR)
                  | _=>cases e'
                | _=>cases e'
    | _=>cases e


theorem xRv {k:FS→H→RJ} {r:RJ} {j:J} {fs':FS} {h':H} (e:thenE k r = .ok j fs' h'):(∃ fs h,r = .ok .norm fs h∧k fs h = .ok j fs' h')∨(j ≠ .norm∧r = .ok j fs' h'):=by
  cases r with
  | no=>cases e
  | ok j1 fs1 h1=>
    cases j1 with
    | norm=>exact .inl ⟨fs1,h1,rfl,e⟩
    | exit id=>
      have e':RJ.ok (.exit id) fs1 h1 = .ok j fs' h':=e
      cases e';exact .inr ⟨(fun e=>by cases e),rfl⟩
    | ret=>
      have e':RJ.ok .ret fs1 h1 = .ok j fs' h':=e
      cases e';exact .inr ⟨(fun e=>by cases e),rfl⟩

theorem Ends.pass {P:Program} {m:Machine} {fn:FuncId} {rd:Option Nat} {x:Item} {k:List Item} {cs:List Frame} {j:J} {tm:Array Value} {df:List Deferred} {w:World} (hx : ∀ id,exitTo id (x :: k)=exitTo id k) (hj:j ≠ .norm)
    (e:Ends P m fn rd (x :: k) cs j tm df w):Ends P m fn rd k cs j tm df w:=by
  cases j with
  | norm=>exact absurd rfl hj
  | exit id=>obtain ⟨k',e1,e2⟩:=e;exact ⟨k',e1.trans (hx id),e2⟩
  | ret=>exact e

theorem codeE_run {P:Program} {ih:Evs} (hm:P.follows .mixedOrders=true) (hc:CodeOK P ih) (hi:CallOK P ih):CodeOK P ⟨codeE P ih,tgtE P ih⟩:=by
  intro c fs h j fs' h' he
  have he':codeE P ih c fs h = .ok j fs' h':=he

  have plain:(∀ b,c ≠ .loop b)→(Keeps fs fs' ∧ ∀ ρ rd tm df w,St ρ fs h rd tm df w → ∀ k cs,∃ ρ' tm' df' w',St ρ' fs' h' rd tm' df' w'∧Ext ρ h w ρ' h' w'∧Ends P (lone (Fr fs.fn rd tm df (.code c :: k)) cs w) fs.fn rd k cs j tm' df' w') →
      (Keeps fs fs' ∧ ∀ ρ rd tm df w,St ρ fs h rd tm df w → ∀ todo k cs,Start c todo k → ∃ ρ' tm' df' w',St ρ' fs' h' rd tm' df' w'∧Ext ρ h w ρ' h' w'∧Ends P (lone (Fr fs.fn rd tm df todo) cs w) fs.fn rd k cs j tm' df' w'):=by
    intro hnl ⟨a,b⟩
    refine ⟨a,fun ρ rd tm df w s todo k cs st=>?_⟩
    rcases st with rfl|⟨b',hb,_⟩
    · exact b ρ rd tm df w s k cs
    · exact absurd hb (hnl b')
  cases c with
  | skip=>
    have e:RJ.ok .norm fs h = .ok j fs' h':=he'
    cases e
    exact plain (fun b e=>by cases e) ⟨.refl _,fun ρ rd tm df w s k cs=>⟨ρ,tm,df,w,s,.refl,s_skip⟩⟩
  | label l=>
    have e:RJ.ok .norm fs h = .ok j fs' h':=he'
    cases e
    exact plain (fun b e=>by cases e) ⟨.refl _,fun ρ rd tm df w s k cs=>⟨ρ,tm,df,w,s,.refl,s_label⟩⟩
  | region id ops draw=>
    have e:normE (regionE P ih ops draw fs h) = .ok j fs' h':=he'
    cases hr:regionE P ih ops draw fs h with
    | no=>rw [hr] at e;cases e
    | ok fs1 h1=>
      rw [hr] at e
      cases e
      obtain ⟨a,b⟩:=regionE_run (id:=id) hm hi hr
      refine plain (fun b e=>by cases e) ⟨a,fun ρ rd tm df w s k cs=>?_⟩
      obtain ⟨ρ',tm',w',q1,q2,q3⟩:=b ρ rd tm df w s k cs
      exact ⟨ρ',tm',df,w',q1,q2,q3⟩
  | seq a b=>
    have e:thenE (ih.code b) (ih.code a fs h) = .ok j fs' h':=he'
    refine plain (fun b e=>by cases e) ?_
    rcases xRv e with ⟨fs1,h1,e1,e2⟩|⟨hj,e1⟩
    · obtain ⟨k1,m1⟩:=hc _ _ _ _ _ _ e1
      obtain ⟨k2,m2⟩:=hc _ _ _ _ _ _ e2
      refine ⟨k1.trans k2,fun ρ rd tm df w s k cs=>?_⟩
      obtain ⟨ρ1,tm1,df1,w1,s1,x1,n1⟩:=m1 ρ rd tm df w s _ (.code b :: k) cs (.inl rfl)
      obtain ⟨ρ2,tm2,df2,w2,s2,x2,n2⟩:=m2 ρ1 rd tm1 df1 w1 s1 _ k cs (.inl rfl)
      rw [k1.fn] at n2
      exact ⟨ρ2,tm2,df2,w2,s2,x1.trans x2,Ends.of (s_seq.trans n1) n2⟩
    · obtain ⟨k1,m1⟩:=hc _ _ _ _ _ _ e1
      refine ⟨k1,fun ρ rd tm df w s k cs=>?_⟩
      obtain ⟨ρ1,tm1,df1,w1,s1,x1,n1⟩:=m1 ρ rd tm df w s _ (.code b :: k) cs (.inl rfl)
      exact ⟨ρ1,tm1,df1,w1,s1,x1,Ends.of s_seq (n1.pass (fun id=>rfl) hj)⟩
  | cond x a b=>
    have e:condE ih x a b fs h = .ok j fs' h':=he'
    unfold condE at e
    cases hx:evT fs.tm x with
    | none=>rw [hx] at e;cases e
    | some v=>
      rw [hx] at e
      dsimp only at e
      cases hb:asB v with
      | none=>rw [hb] at e;cases e
      | some t=>
        rw [hb] at e
        obtain rfl:=wBw hb
        obtain ⟨k1,m1⟩:=hc _ _ _ _ _ _ e
        refine plain (fun b e=>by cases e) ⟨k1,fun ρ rd tm df w s k cs=>?_⟩
        obtain ⟨ρ1,tm1,df1,w1,s1,x1,n1⟩:=m1 ρ rd tm df w s _ k cs (.inl rfl)
        have hv:=evT_vr (a:=⟨tm,df⟩) s.gr s.tr hx
        have hev:(⟨tm,df⟩:Act).eval x = .bool t:=by
          cases hq:(⟨tm,df⟩:Act).eval x with
          | bool t'=>rw [hq] at hv;cases hv;rfl
          | _=>rw [hq] at hv;cases hv
        exact ⟨ρ1,tm1,df1,w1,s1,x1,Ends.of (s_cond hev) n1⟩
  | block id b=>
    have e:outE id (ih.code b fs h) = .ok j fs' h':=he'
    cases hr:ih.code b fs h with
    | no=>rw [hr] at e;cases e
    | ok j1 fs1 h1=>
      rw [hr] at e
      obtain ⟨k1,m1⟩:=hc _ _ _ _ _ _ hr
      refine plain (fun b e=>by cases e) ?_
      cases j1 with
      | norm=>
        have e':RJ.ok .norm fs1 h1 = .ok j fs' h':=e
        cases e'
        refine ⟨k1,fun ρ rd tm df w s k cs=>?_⟩
        obtain ⟨ρ1,tm1,df1,w1,s1,x1,n1⟩:=m1 ρ rd tm df w s _ (.inBlock id :: k) cs (.inl rfl)
        exact ⟨ρ1,tm1,df1,w1,s1,x1,(s_block.trans n1).trans s_inBlock⟩
      | ret=>
        have e':RJ.ok .ret fs1 h1 = .ok j fs' h':=e
        cases e'
        refine ⟨k1,fun ρ rd tm df w s k cs=>?_⟩
        obtain ⟨ρ1,tm1,df1,w1,s1,x1,n1⟩:=m1 ρ rd tm df w s _ (.inBlock id :: k) cs (.inl rfl)
        obtain ⟨k',n1⟩:=n1
        exact ⟨ρ1,tm1,df1,w1,s1,x1,k',s_block.trans n1⟩
      | exit id'=>
        have e':RJ.ok (bif Nat.beq id' id then .norm else .exit id') fs1 h1 = .ok j fs' h':=e
        cases hq:Nat.beq id' id with
        | true=>
          rw [hq] at e'
          cases e'
          obtain rfl:=Nat.eq_of_beq_eq_true hq
          refine ⟨k1,fun ρ rd tm df w s k cs=>?_⟩
          obtain ⟨ρ1,tm1,df1,w1,s1,x1,n1⟩:=m1 ρ rd tm df w s _ (.inBlock id' :: k) cs (.inl rfl)
          obtain ⟨k',e1,n1⟩:=n1
          exact ⟨ρ1,tm1,df1,w1,s1,x1,(s_block.trans n1).trans (s_exit (e1.trans (by simp [exitTo])))⟩
        | false=>
          rw [hq] at e'
          cases e'
          refine ⟨k1,fun ρ rd tm df w s k cs=>?_⟩
          obtain ⟨ρ1,tm1,df1,w1,s1,x1,n1⟩:=m1 ρ rd tm df w s _ (.inBlock id :: k) cs (.inl rfl)
          obtain ⟨k',e1,n1⟩:=n1
          have hne:(id == id')=false:=by
            cases hz:(id == id') with
            | false=>rfl
            | true=>rw [beq_iff_eq] at hz;subst hz;rw [show Nat.beq id id=true from Nat.beq_refl id] at hq;cases hq
          exact ⟨ρ1,tm1,df1,w1,s1,x1,k',e1.trans (by simp [exitTo,hne]),s_block.trans n1⟩
  | loop b=>
    have e:thenE (ih.code (.loop b)) (ih.code b fs h) = .ok j fs' h':=he'
    have first : ∀ {rd tm df w todo k cs},Start (.loop b) todo k→Steps P (lone (Fr fs.fn rd tm df todo) cs w) (lone (Fr fs.fn rd tm df (.code b :: .inLoop b :: k)) cs w):=by
      intro rd tm df w todo k cs st
      rcases st with rfl|⟨b',hb,rfl⟩
      · exact s_loop
      · cases hb;exact s_inLoop
    rcases xRv e with ⟨fs1,h1,e1,e2⟩|⟨hj,e1⟩
    · obtain ⟨k1,m1⟩:=hc _ _ _ _ _ _ e1
      obtain ⟨k2,m2⟩:=hc _ _ _ _ _ _ e2
      refine ⟨k1.trans k2,fun ρ rd tm df w s todo k cs st=>?_⟩
      obtain ⟨ρ1,tm1,df1,w1,s1,x1,n1⟩:=m1 ρ rd tm df w s _ (.inLoop b :: k) cs (.inl rfl)
      obtain ⟨ρ2,tm2,df2,w2,s2,x2,n2⟩:=m2 ρ1 rd tm1 df1 w1 s1 (.inLoop b :: k) k cs (.inr ⟨b,rfl,rfl⟩)
      rw [k1.fn] at n2
      exact ⟨ρ2,tm2,df2,w2,s2,x1.trans x2,Ends.of ((first st).trans n1) n2⟩
    · obtain ⟨k1,m1⟩:=hc _ _ _ _ _ _ e1
      refine ⟨k1,fun ρ rd tm df w s todo k cs st=>?_⟩
      obtain ⟨ρ1,tm1,df1,w1,s1,x1,n1⟩:=m1 ρ rd tm df w s _ (.inLoop b :: k) cs (.inl rfl)
      exact ⟨ρ1,tm1,df1,w1,s1,x1,Ends.of (first st) (n1.pass (fun id=>rfl) hj)⟩
  | rangeFunc f params asg body=>
    have e:rangeE P ih f params asg body fs h = .ok j fs' h':=he'
    obtain ⟨a,b⟩:=rangeE_run hi e
    refine plain (fun b e=>by cases e) ⟨a,fun ρ rd tm df w s k cs=>?_⟩
    obtain ⟨ρ',df',w',q1,q2,q3⟩:=b ρ rd tm df w s k cs
    refine ⟨ρ',tm,df',w',q1,q2,?_⟩
    cases j with
    | norm=>exact q3
    | exit id=>exact ⟨k,rfl,q3⟩
    | ret=>exact ⟨k,q3⟩
  | exit id=>
    have e:RJ.ok (.exit id) fs h = .ok j fs' h':=he'
    cases e
    exact plain (fun b e=>by cases e) ⟨.refl _,fun ρ rd tm df w s k cs=>⟨ρ,tm,df,w,s,.refl,k,rfl,.refl _ _⟩⟩
  | scope b=>
    have e:ih.code b fs h = .ok j fs' h':=he'
    obtain ⟨k1,m1⟩:=hc _ _ _ _ _ _ e
    refine plain (fun b e=>by cases e) ⟨k1,fun ρ rd tm df w s k cs=>?_⟩
    obtain ⟨ρ1,tm1,df1,w1,s1,x1,n1⟩:=m1 ρ rd tm df w s _ (.inScope b :: k) cs (.inl rfl)
    refine ⟨ρ1,tm1,df1,w1,s1,x1,?_⟩
    cases j with
    | norm=>exact (s_scope.trans n1).trans s_inScope
    | exit id=>exact Ends.of s_scope (n1.pass (fun id=>rfl) (fun e=>by cases e))
    | ret=>exact Ends.of s_scope (n1.pass (fun id=>rfl) (fun e=>by cases e))
  | ret=>
    have e:RJ.ok .ret fs h = .ok j fs' h':=he'
    cases e
    exact plain (fun b e=>by cases e) ⟨.refl _,fun ρ rd tm df w s k cs=>⟨ρ,tm,df,w,s,.refl,k,.refl _ _⟩⟩
  | goto l=>cases he
  | refuse why=>cases he

theorem tgtE_run {P:Program} {ih:Evs} (hc:CodeOK P ih):CallOK P ⟨codeE P ih,tgtE P ih⟩:=by
  intro t h v h' he
  have he':tgtE P ih t h = .ok v h':=he
  cases t with
  | yld l args=>exact callYldE_run hc he'
  | fn g args=>
    have e:pureCall h (callFnE P ih g args (Ev.marked h)) = .ok v h':=he'
    cases hr:callFnE P ih g args (Ev.marked h) with
    | no=>rw [hr] at e;cases e
    | ok u h1=>
      rw [hr] at e
      have ok:=callFnE_run hc hr
      intro ρ args' w hg hh ha cs
      obtain ⟨ρ1,v',w1,fr,e1,e2,e3,e4,e5,e6⟩:=ok ρ args' w hg hh.marked ha cs
      obtain ⟨ρ2,rfl,q2,q3,q4⟩:=pureCall_run hh e2 e3 e1 e
      exact ⟨ρ2,v',w1,fr,q2,q3,q4,e4,e5,e6⟩

end Go.Ev
end

section
namespace Go.Ev
open Go.RowKit

noncomputable def deads (n:Nat):T (Nat × AO):=Nat.rec .nil (fun k t=>T.set (0,.dead) (posN k) t) n
noncomputable def startH (cs:List AV):H:={ objs:=T.set (0,.ro (M.get (zBz cs))) (posN 0) (deads 64),next:=posN 64,clock:=1,w:=1 }

theorem deads_get : ∀ (n:Nat) (id:Pos) (p:Nat × AO),T.get id (deads n)=some p→p=(0,.dead)
  | 0,id,p,h=>by rw [show deads 0=T.nil from rfl,T.get_nil] at h;cases h
  | n+1,id,p,h=>by
    have e:deads (n+1)=T.set (0,.dead) (posN n) (deads n):=rfl
    rw [e] at h
    by_cases he:id=posN n
    · subst he;rw [T.get_set_same] at h;cases h;rfl
    · rw [T.get_set_ne _ _ _ _ he] at h;exact deads_get n id p h

theorem deads_has : ∀ (n k:Nat),k<n→T.get (posN k) (deads n)=some (0,.dead)
  | 0,k,h=>absurd h (Nat.not_lt_zero k)
  | n+1,k,h=>by
    have e:deads (n+1)=T.set (0,.dead) (posN n) (deads n):=rfl
    rw [e]
    by_cases he:posN k=posN n
    · rw [he,T.get_set_same]
    · rw [T.get_set_ne _ _ _ _ he]
      have hne:k≠n:=fun e=>he (by rw [e])
      exact deads_has n k (by omega)

open Classical in
noncomputable def startR (cs:List AV) (n:Nat):R:=fun id=>if id=posN 0 then some (some (0,n)) else if Has (startH cs) id then some none else none

def Table (cs:List AV) (W:World):Prop:=∃ (c:Array Value) (e:TypeId) (f:Nat × Nat),W.heap[0]? = some (.cells c e f) ∧ ∀ (i:Nat) (v:AV),cs[i]? = some v → ∃ v':Value,c[i]? = some v'∧VR (fun _=>none) v v'

end Go.Ev
end
