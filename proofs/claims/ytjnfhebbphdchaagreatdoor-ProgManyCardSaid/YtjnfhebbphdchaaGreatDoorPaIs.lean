/-
  errors.Is, of what a reading was stopped by, and of nothing. No condition.
  errors.As of what a reading was stopped by, at a number's own error type;
  errors.As walked;
  errors.As of what a reading was stopped by, and of a fault alone;
-/
import Derived.Test.YtjnfhebbphdchaaGreatDoorPaAhead
import Derived.LaidEql
import Derived.Stop.Asserts
import Derived.RowKitTokens
import Derived.LoopN
set_option maxHeartbeats 4000000
set_option maxRecDepth 100000
open Go.Lib (hid)
namespace Go
section
variable {P : Program} (w : World)
theorem qdI (d : Nat) {ti tn : TypeId} {ms : Array (String × TypeId)} {i : TypeInfo} {k : IntKind} (a b : Int)
   (hi : P.underlying ti = some (.interface ms)) (hn : P.underlying tn = some (.int k)) (hinfo : P.info? tn = some i) (hcomp : i.comparable = true) :
   (Op.equalIn (d + 2) ti (.iface tn (.int k a)) (.iface tn (.int k b))).run P w = .ok (a == b) w := by
 simp [Op.equalIn, run_underlying hi, run_underlying hn, typeInfo, hinfo, hcomp]
theorem qft {ti tn : TypeId} {ms : Array (String × TypeId)} {i : TypeInfo} {k : IntKind} (a b : Int)
   (hi : P.underlying ti = some (.interface ms)) (hn : P.underlying tn = some (.int k)) (hinfo : P.info? tn = some i) (hcomp : i.comparable = true) :
   (binOp .eql ti (.iface tn (.int k a)) (.iface tn (.int k b))).run P w = .ok (.bool (a == b)) w := by
 simp only [binOp]
 simp [Op.equal, Op.maxDepth, qdI w 9998 a b hi hn hinfo hcomp]
end
end Go
namespace Go.Proofs.YtjnfhebbphdchaaGreatDoor.Pa
open Go.RowKit Go.Extern.Stop Go.Stop Go.Extern
theorem qoA (a b : Int) (w : World) : (binOp .eql 129 (.iface 171 (.int .i64 a)) (.iface 171 (.int .i64 b))).run Tryz.prog w = .ok (.bool (a == b)) w := by
 have hinfo : (Tryz.prog.info? 171).map (·.comparable) = some true := by kernel_rfl
 obtain ⟨i, hi, hc⟩ := Option.map_eq_some_iff.1 hinfo
 exact qft w a b Tryz.underlying129 (by kernel_rfl) hi hc
theorem qfu (v : Value) (w : World) : (callFunc 138 #[.iface 171 v]).run Tryz.prog w = .ok (.value (.iface 244 (.agg #[.pointer (some ⟨9, 171, none⟩)]))) w := by
 rw [@run_callFunc_extern Tryz.prog 138 _ Extern.ReflectliteType.typeOf Tryz.func138 (by kernel_rfl) (by kernel_rfl) (by kernel_rfl) (by kernel_rfl)]
 have h : (Extern.ReflectliteType.typeOf #[.iface 171 v]).run Tryz.prog w = .ok (.iface 244 (.agg #[.pointer (some ⟨9, 171, none⟩)])) w := by kernel_rfl
 rw [h]; rfl
theorem qhB (w : World) : (callFunc 238 #[.agg #[.pointer (some ⟨9, 171, none⟩)]]).run Tryz.prog w = .ok (.value (.bool true)) w := by
 rw [@run_callFunc_extern Tryz.prog 238 _ (Extern.ReflectliteType.method fun t => do Extern.Rtype.noPackHeld "Comparable" t; pure (.bool (<- typeInfo t).comparable)) Tryz.func238 (by kernel_rfl) (by kernel_rfl) (by kernel_rfl) (by kernel_rfl)]
 have h : ((Extern.ReflectliteType.method fun t => do Extern.Rtype.noPackHeld "Comparable" t; pure (.bool (<- typeInfo t).comparable)) #[.agg #[.pointer (some ⟨9, 171, none⟩)]]).run Tryz.prog w = .ok (.bool true) w := by kernel_rfl
 rw [h]; rfl
theorem qqy (n : Nat) (h : Value) (w : World) : (Go.method (n + 1) 244 (.agg #[h]) "Comparable").run Tryz.prog w = .ok (238, .agg #[h]) w := by kernel_rfl
theorem qmV (v : Value) (xT : TypeId) (w : World) : (Instr.typeAssert (.iface 213 v) xT 246 true).run Tryz.prog w = .ok (.tuple #[.nilIface, .bool false]) w := run_typeAssert_lacksB Tryz.underlying246 (by kernel_rfl) (by kernel_rfl) v xT w
theorem qkP (v : Value) (xT : TypeId) (w : World) : (Instr.typeAssert (.iface 171 v) xT 246 true).run Tryz.prog w = .ok (.tuple #[.nilIface, .bool false]) w := run_typeAssert_lacksB Tryz.underlying246 (by kernel_rfl) (by kernel_rfl) v xT w
theorem qdJ (v : Value) (xT : TypeId) (w : World) : (Instr.typeAssert (.iface 213 v) xT 249 true).run Tryz.prog w = .ok (.tuple #[.iface 213 v, .bool true]) w := run_typeAssert_hasB Tryz.underlying249 (by kernel_rfl) v xT w
theorem qgT (v : Value) (xT : TypeId) (w : World) : (Instr.typeAssert (.iface 171 v) xT 249 true).run Tryz.prog w = .ok (.tuple #[.nilIface, .bool false]) w := run_typeAssert_lacksB Tryz.underlying249 (by kernel_rfl) (by kernel_rfl) v xT w
theorem qfV (v : Value) (xT : TypeId) (w : World) : (Instr.typeAssert (.iface 171 v) xT 250 true).run Tryz.prog w = .ok (.tuple #[.nilIface, .bool false]) w := run_typeAssert_lacksB Tryz.underlying250 (by kernel_rfl) (by kernel_rfl) v xT w
theorem qlN (n : Nat) (a b : Value) (w : World) : (Go.method (n + 1) 213 (.agg #[a, b]) "Unwrap").run Tryz.prog w = .ok (232, .agg #[a, b]) w := by kernel_rfl
theorem qfv (a b : Value) (w : World) : Calls Tryz.prog 232 #[.agg #[a, b]] w fun e w' => e = .returned b /\ Below w.heap.size w w' := by
 go_enter Tryz.func232, Tryz.ntmps232
 go_wp2
 go_ret
 exact ⟨rfl, X.qab _ _⟩
theorem qoB (k n m : Int) (w : World) : Calls Tryz.prog 102 #[stopV k n, .iface 171 (.int .i64 m)] w fun e w' => e = .returned (.bool (n == m)) /\ Below w.heap.size w w' := by
 have tT := qfu
 have cT := qhB
 have mR := qqy
 have a1 := qmV
 have a2 := qkP
 have a3 := qdJ
 have a4 := qgT
 have a5 := qfV
 have mU := qlN
 have heq := qoA
 have hty := fun (v1 v2 : Value) w => run_eql_iface_types (P := Tryz.prog) 213 171 v1 v2 Tryz.underlying129 (by decide) w
 unfold stopV
 cases hnm : (n == m)
 all_goals
   go_enter Tryz.func102, Tryz.ntmps102
   go_wp2_with (first | (go_at_call 139; go_in) | (go_at_call 232; refine (qfv _ _ _).mono ?_; rintro e w2 ⟨rfl, hb2⟩))
   refine wp_loop_rounds 2 ?_
   rw [rounds_succ]
   go_wp2_with (first | (go_at_call 232; refine (qfv _ _ _).mono ?_; rintro e w2 ⟨rfl, hb2⟩; replace hb2 := hid hb2))
   rw [rounds_succ]
   go_wp2_with fail
   go_ret
   exact ⟨rfl, hb2.out⟩
theorem qgU (t : Addr) (w : World) : (callFunc 140 #[.iface 173 (.pointer (some t))]).run Tryz.prog w
   = .ok (.value (.agg #[.pointer (some ⟨9, 173, none⟩), .pointer (some ⟨w.heap.size, 0, none⟩), .int .u64 150])) (w.alloc (.cells #[.pointer (some t)] 173)) := by
 rw [@run_callFunc_extern Tryz.prog 140 _ (fun args => ReflectliteValue.unpack (args.getD 0 (.tuple #[]))) Tryz.func140 (by kernel_rfl) (by kernel_rfl) (by kernel_rfl) (by kernel_rfl)]
 have h : (ReflectliteValue.unpack (.iface 173 (.pointer (some t)))).run Tryz.prog w = .ok (.agg #[.pointer (some ⟨9, 173, none⟩), .pointer (some ⟨w.heap.size, 0, none⟩), .int .u64 150]) (w.alloc (.cells #[.pointer (some t)] 173)) := by kernel_rfl
 show (Sem.run Tryz.prog (ReflectliteValue.unpack (.iface 173 (.pointer (some t)))) w).andThen _ = _
 rw [h]; rfl
theorem qgV (n : Int) (w : World) : (callFunc 140 #[.iface 171 (.int .i64 n)]).run Tryz.prog w
   = .ok (.value (.agg #[.pointer (some ⟨9, 171, none⟩), .pointer (some ⟨w.heap.size, 0, none⟩), .int .u64 130])) (w.alloc (.cells #[.int .i64 n] 171)) := by
 rw [@run_callFunc_extern Tryz.prog 140 _ (fun args => ReflectliteValue.unpack (args.getD 0 (.tuple #[]))) Tryz.func140 (by kernel_rfl) (by kernel_rfl) (by kernel_rfl) (by kernel_rfl)]
 have h : (ReflectliteValue.unpack (.iface 171 (.int .i64 n))).run Tryz.prog w = .ok (.agg #[.pointer (some ⟨9, 171, none⟩), .pointer (some ⟨w.heap.size, 0, none⟩), .int .u64 130]) (w.alloc (.cells #[.int .i64 n] 171)) := by kernel_rfl
 show (Sem.run Tryz.prog (ReflectliteValue.unpack (.iface 171 (.int .i64 n))) w).andThen _ = _
 rw [h]; rfl
def hdl (t : Nat) : Value := .pointer (some ⟨9, t, none⟩)
theorem qoC (a : Addr) (w : World) : (callFunc 141 #[.agg #[.pointer (some ⟨9, 173, none⟩), .pointer (some a), .int .u64 150]]).run Tryz.prog w = .ok (.value (.iface 244 (.agg #[.pointer (some ⟨9, 173, none⟩)]))) w := by
 rw [@run_callFunc_extern Tryz.prog 141 _ (ReflectliteValue.methodAny (ReflectliteValue.valueError "reflectlite.Value.Type" 0) (fun t _ _ _ => ReflectliteType.toType t)) Tryz.func141 (by kernel_rfl) (by kernel_rfl) (by kernel_rfl) (by kernel_rfl)]
 have h : (ReflectliteValue.methodAny (ReflectliteValue.valueError "reflectlite.Value.Type" 0) (fun t _ _ _ => ReflectliteType.toType t) #[.agg #[.pointer (some ⟨9, 173, none⟩), .pointer (some a), .int .u64 150]]).run Tryz.prog w = .ok (.iface 244 (.agg #[.pointer (some ⟨9, 173, none⟩)])) w := by kernel_rfl
 rw [h]; rfl
theorem qlO (n : Nat) (h : Value) (w : World) : (Go.method (n + 1) 244 (.agg #[h]) "Kind").run Tryz.prog w = .ok (220, h) w := by kernel_rfl
theorem qlP (n : Nat) (h : Value) (w : World) : (Go.method (n + 1) 244 (.agg #[h]) "Elem").run Tryz.prog w = .ok (239, .agg #[h]) w := by kernel_rfl
theorem qlQ (n : Nat) (h : Value) (w : World) : (Go.method (n + 1) 244 (.agg #[h]) "Implements").run Tryz.prog w = .ok (240, .agg #[h]) w := by kernel_rfl
theorem qhM (n : Nat) (h : Value) (w : World) : (Go.method (n + 1) 244 (.agg #[h]) "AssignableTo").run Tryz.prog w = .ok (237, .agg #[h]) w := by kernel_rfl
theorem qlR (w : World) : (callFunc 220 #[.pointer (some ⟨9, 173, none⟩)]).run Tryz.prog w = .ok (.value (.int .u8 22)) w := by
 rw [@run_callFunc_extern Tryz.prog 220 _ (ReflectliteType.abiMethod fun t => do pure (.int .u8 (<- Rtype.kind t))) Tryz.func220 (by kernel_rfl) (by kernel_rfl) (by kernel_rfl) (by kernel_rfl)]
 have h : ((ReflectliteType.abiMethod fun t => do pure (.int .u8 (<- Rtype.kind t))) #[.pointer (some ⟨9, 173, none⟩)]).run Tryz.prog w = .ok (.int .u8 22) w := by kernel_rfl
 rw [h]; rfl
theorem qlS (w : World) : (callFunc 220 #[.pointer (some ⟨9, 171, none⟩)]).run Tryz.prog w = .ok (.value (.int .u8 2)) w := by
 rw [@run_callFunc_extern Tryz.prog 220 _ (ReflectliteType.abiMethod fun t => do pure (.int .u8 (<- Rtype.kind t))) Tryz.func220 (by kernel_rfl) (by kernel_rfl) (by kernel_rfl) (by kernel_rfl)]
 have h : ((ReflectliteType.abiMethod fun t => do pure (.int .u8 (<- Rtype.kind t))) #[.pointer (some ⟨9, 171, none⟩)]).run Tryz.prog w = .ok (.int .u8 2) w := by kernel_rfl
 rw [h]; rfl
theorem qoD (w : World) : (callFunc 239 #[.agg #[.pointer (some ⟨9, 173, none⟩)]]).run Tryz.prog w = .ok (.value (.iface 244 (.agg #[.pointer (some ⟨9, 171, none⟩)]))) w := by
 rw [@run_callFunc_extern Tryz.prog 239 _ (ReflectliteType.method ReflectliteType.elem) Tryz.func239 (by kernel_rfl) (by kernel_rfl) (by kernel_rfl) (by kernel_rfl)]
 have h : (ReflectliteType.method ReflectliteType.elem #[.agg #[.pointer (some ⟨9, 173, none⟩)]]).run Tryz.prog w = .ok (.iface 244 (.agg #[.pointer (some ⟨9, 171, none⟩)])) w := by kernel_rfl
 rw [h]; rfl
theorem qoE (w : World) : (callFunc 240 #[.agg #[.pointer (some ⟨9, 171, none⟩)], .iface 244 (.agg #[.pointer (some ⟨9, 129, none⟩)])]).run Tryz.prog w = .ok (.value (.bool true)) w := by
 rw [@run_callFunc_extern Tryz.prog 240 _ (ReflectliteType.relation "Implements" ReflectliteType.implements_) Tryz.func240 (by kernel_rfl) (by kernel_rfl) (by kernel_rfl) (by kernel_rfl)]
 have h : (ReflectliteType.relation "Implements" ReflectliteType.implements_ #[.agg #[.pointer (some ⟨9, 171, none⟩)], .iface 244 (.agg #[.pointer (some ⟨9, 129, none⟩)])]).run Tryz.prog w = .ok (.bool true) w := by kernel_rfl
 rw [h]; rfl
theorem qhN (w : World) : (callFunc 237 #[.agg #[.pointer (some ⟨9, 171, none⟩)], .iface 244 (.agg #[.pointer (some ⟨9, 171, none⟩)])]).run Tryz.prog w = .ok (.value (.bool true)) w := by
 rw [@run_callFunc_extern Tryz.prog 237 _ (ReflectliteType.relation "AssignableTo" ReflectliteType.assignableTo) Tryz.func237 (by kernel_rfl) (by kernel_rfl) (by kernel_rfl) (by kernel_rfl)]
 have h : (ReflectliteType.relation "AssignableTo" ReflectliteType.assignableTo #[.agg #[.pointer (some ⟨9, 171, none⟩)], .iface 244 (.agg #[.pointer (some ⟨9, 171, none⟩)])]).run Tryz.prog w = .ok (.bool true) w := by kernel_rfl
 rw [h]; rfl
theorem qmW (w : World) : (callFunc 237 #[.agg #[.pointer (some ⟨9, 213, none⟩)], .iface 244 (.agg #[.pointer (some ⟨9, 171, none⟩)])]).run Tryz.prog w = .ok (.value (.bool false)) w := by
 rw [@run_callFunc_extern Tryz.prog 237 _ (ReflectliteType.relation "AssignableTo" ReflectliteType.assignableTo) Tryz.func237 (by kernel_rfl) (by kernel_rfl) (by kernel_rfl) (by kernel_rfl)]
 have h : (ReflectliteType.relation "AssignableTo" ReflectliteType.assignableTo #[.agg #[.pointer (some ⟨9, 213, none⟩)], .iface 244 (.agg #[.pointer (some ⟨9, 171, none⟩)])]).run Tryz.prog w = .ok (.bool false) w := by kernel_rfl
 rw [h]; rfl
theorem qkQ (v : Value) (w : World) : (callFunc 138 #[.iface 213 v]).run Tryz.prog w = .ok (.value (.iface 244 (.agg #[.pointer (some ⟨9, 213, none⟩)]))) w := by
 rw [@run_callFunc_extern Tryz.prog 138 _ Extern.ReflectliteType.typeOf Tryz.func138 (by kernel_rfl) (by kernel_rfl) (by kernel_rfl) (by kernel_rfl)]
 have h : (Extern.ReflectliteType.typeOf #[.iface 213 v]).run Tryz.prog w = .ok (.iface 244 (.agg #[.pointer (some ⟨9, 213, none⟩)])) w := by kernel_rfl
 rw [h]; rfl
theorem qmX (v : Value) (xT : TypeId) (w : World) : (Instr.typeAssert (.iface 213 v) xT 255 true).run Tryz.prog w = .ok (.tuple #[.nilIface, .bool false]) w := run_typeAssert_lacksB Tryz.underlying255 (by kernel_rfl) (by kernel_rfl) v xT w
theorem rlm (z : Sem Value) (f : TypeId -> Addr -> Nat -> Nat -> Sem Value) (v : Value) :
   ReflectliteValue.method z f #[v] = (do match <- ReflectliteValue.parts v with | none => z | some (t, a, fl) => f t a fl (fl % 32)) := rfl
theorem qjn (a : Addr) (w : World) : (ReflectliteValue.parts (.agg #[.pointer (some ⟨9, 173, none⟩), .pointer (some a), .int .u64 150])).run Tryz.prog w = .ok (some (173, a, 150)) w := by kernel_rfl
theorem qlT (a p : Addr) (W : World) (ha : W.cell? a = some (.pointer (some p))) :
   (callFunc 142 #[.agg #[.pointer (some ⟨9, 173, none⟩), .pointer (some a), .int .u64 150]]).run Tryz.prog W = .ok (.value (.bool false)) W := by
 rw [@run_callFunc_extern Tryz.prog 142 _ (ReflectliteValue.method (ReflectliteValue.valueError "reflectlite.Value.IsNil" 0) ReflectliteValue.isNil) Tryz.func142 (by kernel_rfl) (by kernel_rfl) (by kernel_rfl) (by kernel_rfl)]
 rw [rlm]
 simp only [Sem.run_bind, qjn, Result.andThen]
 simp [ReflectliteValue.isNil, loadVar, isAgg, underlying, Tryz.underlying173, ha, Result.andThen]
theorem qoF (w : World) : (Rtype.elem? 173).run Tryz.prog w = .ok (some 171) w := by kernel_rfl
theorem as_mk (p : Addr) (w : World) : (ReflectliteValue.mk 171 p ReflectliteValue.flagAddr).run Tryz.prog w = .ok (.agg #[.pointer (some ⟨9, 171, none⟩), .pointer (some p), .int .u64 386]) w := by kernel_rfl
theorem qlU (a p : Addr) (W : World) (ha : W.cell? a = some (.pointer (some p))) :
   (callFunc 168 #[.agg #[.pointer (some ⟨9, 173, none⟩), .pointer (some a), .int .u64 150]]).run Tryz.prog W = .ok (.value (.agg #[.pointer (some ⟨9, 171, none⟩), .pointer (some p), .int .u64 386])) W := by
 rw [@run_callFunc_extern Tryz.prog 168 _ (ReflectliteValue.method (ReflectliteValue.valueError "reflectlite.Value.Elem" 0) ReflectliteValue.elem) Tryz.func168 (by kernel_rfl) (by kernel_rfl) (by kernel_rfl) (by kernel_rfl)]
 rw [rlm]
 simp only [Sem.run_bind, qjn, Result.andThen]
 simp [ReflectliteValue.elem, loadVar, isAgg, underlying, Tryz.underlying173, ha, Result.andThen, qoF, as_mk]
theorem qmY (a : Addr) (w : World) : (ReflectliteValue.parts (.agg #[.pointer (some ⟨9, 171, none⟩), .pointer (some a), .int .u64 386])).run Tryz.prog w = .ok (some (171, a, 386)) w := by kernel_rfl
theorem qoG (a : Addr) (w : World) : (ReflectliteValue.parts (.agg #[.pointer (some ⟨9, 171, none⟩), .pointer (some a), .int .u64 130])).run Tryz.prog w = .ok (some (171, a, 130)) w := by kernel_rfl
theorem qoH (w : World) : (Rtype.directlyAssignable 171 171).run Tryz.prog w = .ok true w := by kernel_rfl
theorem qrk (ta b : Addr) (n : Int) (old : Value) (W : World) (hb : W.cell? b = some (.int .i64 n)) (ht : W.cell? ta = some old) (hf : W.frozen? ta = false) :
   (callFunc 169 #[.agg #[.pointer (some ⟨9, 171, none⟩), .pointer (some ta), .int .u64 386], .agg #[.pointer (some ⟨9, 171, none⟩), .pointer (some b), .int .u64 130]]).run Tryz.prog W = .ok (.value (.tuple #[])) (W.setCell ta (.int .i64 n)) := by
 rw [@run_callFunc_extern Tryz.prog 169 _ ReflectliteValue.set Tryz.func169 (by kernel_rfl) (by kernel_rfl) (by kernel_rfl) (by kernel_rfl)]
 rw [show ∀ v x, ReflectliteValue.set #[v, x] = (ReflectliteValue.parts v >>= _) from fun _ _ => rfl]
 simp only [Sem.run_bind, qmY, qoG, Result.andThen, Array.getLit, List.getElem_toArray, List.getElem_cons_succ, List.getElem_cons_zero]
 simp [ReflectliteValue.flagAddr, loadVar, isAgg, underlying, hb, Result.andThen, qoH, storeVar, Value.cells, storeCells, Addr.add, Tryz.underlying171]
 rw [run_store Tryz.prog W ta _ _ (by rfl)]
 simp [ht, hf]
def ErrT (w : World) : Prop := w.cell? ⟨1, 0, none⟩ = some (.iface 244 (.agg #[.pointer (some ⟨9, 129, none⟩)]))
theorem ErrT.lt {w : World} (h : ErrT w) : 1 < w.heap.size := World.block_lt_of_cell? w _ h
theorem ErrT.later {w w' : World} (h : ErrT w) (hb : Below w.heap.size w w') : ErrT w' := (hb.cell (p := ⟨1, 0, none⟩) h.lt).trans h
def qjo (n : Int) : Value := .iface 171 (.int .i64 n)
theorem qqz (n : Int) (tb : Nat) (old : Value) (w : World) (hE : ErrT w) (ht0 : w.cell? ⟨tb, 0, none⟩ = some old) (hf0 : w.frozen? ⟨tb, 0, none⟩ = false) :
   Calls Tryz.prog 103 #[.iface 171 (.int .i64 n), .iface 173 (.pointer (some ⟨tb, 0, none⟩))] w fun ev w' => ev = .returned (.bool true) /\ w'.cell? ⟨tb, 0, none⟩ = some (.int .i64 n) /\ Below tb w w' := by
 have f6 := qgU
 have f6f := qgV
 have f7 := qoC
 have mK := qlO
 have mE := qlP
 have mI := qlQ
 have mA := qhM
 have kP := qlR
 have kF := qlS
 have e37 := qoD
 have i38 := qoE
 have aF := qhN
 have tO := qfu
 have hlt0 : 0 < w.heap.size := Nat.lt_of_le_of_lt (Nat.zero_le _) hE.lt
 have htl : tb < w.heap.size := World.block_lt_of_cell? w _ ht0
 have n8 := qlT ⟨w.heap.size, 0, none⟩ ⟨tb, 0, none⟩ ((w.alloc (.cells #[.pointer (some ⟨tb, 0, none⟩)] 173)).alloc (.cells #[.pointer (some ⟨9, 173, none⟩), .pointer (some ⟨w.heap.size, 0, none⟩), .int .u64 150] 221)) (by simp)
 have hg2 : ((w.alloc (.cells #[.pointer (some ⟨tb, 0, none⟩)] 173)).alloc (.cells #[.pointer (some ⟨9, 173, none⟩), .pointer (some ⟨w.heap.size, 0, none⟩), .int .u64 150] 221)).cell? ⟨1, 0, none⟩ = some (.iface 244 (.agg #[.pointer (some ⟨9, 129, none⟩)])) := (hE.later (X.qab w _)).later (X.qab _ _)
 have el := qlU ⟨w.heap.size, 0, none⟩ ⟨tb, 0, none⟩ (((w.alloc (.cells #[.pointer (some ⟨tb, 0, none⟩)] 173)).alloc (.cells #[.pointer (some ⟨9, 173, none⟩), .pointer (some ⟨w.heap.size, 0, none⟩), .int .u64 150] 221)).alloc (.cells #[.pointer (some ⟨9, 173, none⟩), .pointer (some ⟨w.heap.size, 0, none⟩), .int .u64 150] 221)) (by rw [World.cell?_alloc_lt _ _ ⟨w.heap.size, 0, none⟩ (by simp; omega)]; simp)
 have st := qrk ⟨tb, 0, none⟩ ⟨w.heap.size + 1 + 1 + 1, 0, none⟩ n old ((((w.alloc (.cells #[.pointer (some ⟨tb, 0, none⟩)] 173)).alloc (.cells #[.pointer (some ⟨9, 173, none⟩), .pointer (some ⟨w.heap.size, 0, none⟩), .int .u64 150] 221)).alloc (.cells #[.pointer (some ⟨9, 173, none⟩), .pointer (some ⟨w.heap.size, 0, none⟩), .int .u64 150] 221)).alloc (.cells #[.int .i64 n] 171))
   (by rw [World.cell?_alloc_at _ _ _ _ (by simp)]; rfl)
   (by rw [World.cell?_alloc_lt _ _ ⟨tb, 0, none⟩ (by simp; omega), World.cell?_alloc_lt _ _ ⟨tb, 0, none⟩ (by simp; omega), World.cell?_alloc_lt _ _ ⟨tb, 0, none⟩ (by simp; omega), World.cell?_alloc_lt _ _ ⟨tb, 0, none⟩ htl]; exact ht0)
   (by rw [World.frozen?_alloc_old _ _ ⟨tb, 0, none⟩ (by simp; omega), World.frozen?_alloc_old _ _ ⟨tb, 0, none⟩ (by simp; omega), World.frozen?_alloc_old _ _ ⟨tb, 0, none⟩ (by simp; omega), World.frozen?_alloc_old _ _ ⟨tb, 0, none⟩ (Nat.ne_of_lt htl)]; exact hf0)
 go_enter Tryz.func103, Tryz.ntmps103
 go_wp2_with (go_at_call 143; go_in)
 refine wp_loop_rounds 1 ?_
 rw [rounds_succ]
 go_wp2_with fail
 go_ret
 refine ⟨rfl, World.cell?_setCell_same _ _ _ (by
   rw [World.cell?_alloc_lt _ _ ⟨tb, 0, none⟩ (by simp; omega), World.cell?_alloc_lt _ _ ⟨tb, 0, none⟩ (by simp; omega), World.cell?_alloc_lt _ _ ⟨tb, 0, none⟩ (by simp; omega), World.cell?_alloc_lt _ _ ⟨tb, 0, none⟩ htl]; exact ht0), ?_⟩
 exact (((((Below.refl tb w).alloc (Nat.le_of_lt htl) _).alloc (by simp; omega) _).alloc (by simp; omega) _).alloc (by simp; omega) _).setCell (p := ⟨tb, 0, none⟩) (Nat.le_refl _) _
theorem qsb (k n : Int) (tb : Nat) (old : Value) (w : World) (hE : ErrT w) (ht0 : w.cell? ⟨tb, 0, none⟩ = some old) (hf0 : w.frozen? ⟨tb, 0, none⟩ = false) :
   Calls Tryz.prog 103 #[stopV k n, .iface 173 (.pointer (some ⟨tb, 0, none⟩))] w fun ev w' => ev = .returned (.bool true) /\ w'.cell? ⟨tb, 0, none⟩ = some (.int .i64 n) /\ Below tb w w' := by
 have f6 := qgU
 have f6f := qgV
 have f7 := qoC
 have mK := qlO
 have mE := qlP
 have mI := qlQ
 have mA := qhM
 have kP := qlR
 have kF := qlS
 have e37 := qoD
 have i38 := qoE
 have aF := qhN
 have tO := qfu
 have tS := qkQ
 have aS := qmW
 have a1 := qmX
 have a3 := qdJ
 have mU := qlN
 have hlt0 : 0 < w.heap.size := Nat.lt_of_le_of_lt (Nat.zero_le _) hE.lt
 have htl : tb < w.heap.size := World.block_lt_of_cell? w _ ht0
 have n8 := qlT ⟨w.heap.size, 0, none⟩ ⟨tb, 0, none⟩ ((w.alloc (.cells #[.pointer (some ⟨tb, 0, none⟩)] 173)).alloc (.cells #[.pointer (some ⟨9, 173, none⟩), .pointer (some ⟨w.heap.size, 0, none⟩), .int .u64 150] 221)) (by simp)
 have hg2 : ((w.alloc (.cells #[.pointer (some ⟨tb, 0, none⟩)] 173)).alloc (.cells #[.pointer (some ⟨9, 173, none⟩), .pointer (some ⟨w.heap.size, 0, none⟩), .int .u64 150] 221)).cell? ⟨1, 0, none⟩ = some (.iface 244 (.agg #[.pointer (some ⟨9, 129, none⟩)])) := (hE.later (X.qab w _)).later (X.qab _ _)
 unfold stopV
 go_enter Tryz.func103, Tryz.ntmps103
 go_wp2_with (go_at_call 143; go_in)
 refine wp_loop_rounds 2 ?_
 rw [rounds_succ]
 go_wp2_with fail
 obtain ⟨W, hW⟩ : ∃ W, (((w.alloc (.cells #[.pointer (some ⟨tb, 0, none⟩)] 173)).alloc (.cells #[.pointer (some ⟨9, 173, none⟩), .pointer (some ⟨w.heap.size, 0, none⟩), .int .u64 150] 221)).alloc (.cells #[.pointer (some ⟨9, 173, none⟩), .pointer (some ⟨w.heap.size, 0, none⟩), .int .u64 150] 221)) = W := ⟨_, rfl⟩
 have hWz : W.heap.size = w.heap.size + 1 + 1 + 1 := by rw [<- hW]; simp
 have hB : Below tb w W := by rw [<- hW]; exact (((Below.refl tb w).alloc (Nat.le_of_lt htl) _).alloc (by simp; omega) _).alloc (by simp; omega) _
 have hc0 : W.cell? ⟨w.heap.size, 0, none⟩ = some (.pointer (some ⟨tb, 0, none⟩)) := by rw [<- hW, World.cell?_alloc_lt _ _ ⟨w.heap.size, 0, none⟩ (by simp; omega)]; simp
 have hcv : W.cell? ⟨w.heap.size + 1 + 1, 0, none⟩ = some (.pointer (some ⟨9, 173, none⟩)) /\ W.cell? ⟨w.heap.size + 1 + 1, 1, none⟩ = some (.pointer (some ⟨w.heap.size, 0, none⟩)) /\ W.cell? ⟨w.heap.size + 1 + 1, 2, none⟩ = some (.int .u64 150) := by
   rw [<- hW]
   refine ⟨?_, ?_, ?_⟩ <;> rw [World.cell?_alloc_at _ _ _ _ (by simp)] <;> rfl
 have ht1 : W.cell? ⟨tb, 0, none⟩ = some old := by rw [<- hW, World.cell?_alloc_lt _ _ ⟨tb, 0, none⟩ (by simp; omega), World.cell?_alloc_lt _ _ ⟨tb, 0, none⟩ (by simp; omega), World.cell?_alloc_lt _ _ ⟨tb, 0, none⟩ htl]; exact ht0
 have hf1 : W.frozen? ⟨tb, 0, none⟩ = false := by rw [<- hW, World.frozen?_alloc_old _ _ ⟨tb, 0, none⟩ (by simp; omega), World.frozen?_alloc_old _ _ ⟨tb, 0, none⟩ (by simp; omega), World.frozen?_alloc_old _ _ ⟨tb, 0, none⟩ (Nat.ne_of_lt htl)]; exact hf0
 rw [hW]
 clear hW n8 hg2 ht0 hf0
 refine (qfv _ _ _).mono ?_
 rintro e w2 ⟨rfl, hb2⟩
 have e0 := (hb2.cell (p := ⟨w.heap.size, 0, none⟩) (by show w.heap.size < _; omega)).trans hc0
 have e1 := (hb2.cell (p := ⟨w.heap.size + 1 + 1, 0, none⟩) (by show w.heap.size + 1 + 1 < _; omega)).trans hcv.1
 have e2 := (hb2.cell (p := ⟨w.heap.size + 1 + 1, 1, none⟩) (by show w.heap.size + 1 + 1 < _; omega)).trans hcv.2.1
 have e3 := (hb2.cell (p := ⟨w.heap.size + 1 + 1, 2, none⟩) (by show w.heap.size + 1 + 1 < _; omega)).trans hcv.2.2
 have e4 := (hb2.cell (p := ⟨tb, 0, none⟩) (by show tb < _; omega)).trans ht1
 have e5 : w2.frozen? ⟨tb, 0, none⟩ = false := by
   rw [hb2.frozen (p := ⟨tb, 0, none⟩) (by show tb < _; omega)]; exact hf1
 have el := qlU ⟨w.heap.size, 0, none⟩ ⟨tb, 0, none⟩ w2 e0
 have hz2 := hb2.size
 have st := qrk ⟨tb, 0, none⟩ ⟨w2.heap.size, 0, none⟩ n old (w2.alloc (.cells #[.int .i64 n] 171))
   (by rw [World.cell?_alloc_at _ _ _ _ (by simp)]; rfl)
   (by rw [World.cell?_alloc_lt _ _ ⟨tb, 0, none⟩ (by show tb < _; omega)]; exact e4)
   (by rw [World.frozen?_alloc_old _ _ ⟨tb, 0, none⟩ (Nat.ne_of_lt (by show tb < _; omega))]; exact e5)
 replace hb2 := hid hb2
 replace hz2 := hid hz2
 replace hWz := hid hWz
 clear hc0 hcv ht1 hf1
 go_wp2_with fail
 rw [rounds_succ]
 go_wp2_with fail
 go_ret
 refine ⟨rfl, World.cell?_setCell_same _ _ _ (by rw [World.cell?_alloc_lt _ _ ⟨tb, 0, none⟩ (by have := hz2.out; have := hWz.out; show tb < _; omega)]; exact e4), ?_⟩
 have := hz2.out
 have := hWz.out
 exact ((hB.trans (hb2.out.mono (by omega))).alloc (by omega) _).setCell (p := ⟨tb, 0, none⟩) (Nat.le_refl _) _
theorem qoI (v : Value) (n : Int) (hv : (∃ k : Int, v = stopV k n) ∨ v = qjo n) (w : World) (hE : ErrT w) : Calls Tryz.prog 58 #[v] w fun e w' => e = .returned (.int .i64 n) /\ Below w.heap.size w w' := by
 obtain ⟨W, hW⟩ : ∃ W, w.alloc (.cells #[.int .i64 0] 171) = W := ⟨_, rfl⟩
 have hb : Below w.heap.size w W := by rw [<- hW]; exact X.qab _ _
 have hx : W.heap[w.heap.size]? = some (.cells #[.int .i64 0] 171 (0, 0)) := by rw [<- hW]; exact World.alloc_heap_new w (.cells #[.int .i64 0] 171)
 have ka : Calls Tryz.prog 103 #[v, .iface 173 (.pointer (some ⟨w.heap.size, 0, none⟩))] W fun ev w' => ev = .returned (.bool true) /\ w'.cell? ⟨w.heap.size, 0, none⟩ = some (.int .i64 n) /\ Below w.heap.size W w' := by
   rcases hv with ⟨k, rfl⟩ | rfl
   . exact qsb k n w.heap.size _ W (hE.later hb) (qaa W w.heap.size 0 _ _ _ hx) (qac hx 0)
   . exact qqz n w.heap.size _ W (hE.later hb) (qaa W w.heap.size 0 _ _ _ hx) (qac hx 0)
 replace ka := hid ka
 replace hW := hid hW
 replace hb := hid hb
 clear hv hE hx
 go_enter Tryz.func58, Tryz.ntmps58
 go_wp2_with fail
 try rw [hW.out]
 refine ka.out.mono ?_
 rintro e w2 ⟨rfl, hc, hb2⟩
 have hB := hid (hb.out.trans hb2)
 replace hb2 := hid hb2
 go_wp2_with fail
 go_ret
 exact ⟨rfl, hB.out⟩
end Go.Proofs.YtjnfhebbphdchaaGreatDoor.Pa
