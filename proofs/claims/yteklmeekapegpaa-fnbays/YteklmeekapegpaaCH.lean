/- Bays as channels of one place: entering, asking. -/
import Derived.Test.YteklmeekapegpaaNW
namespace Go.Proofs.Yteklmeekapegpaa
open Go.RowKit Go.Conc

set_option maxRecDepth 20000 in
set_option maxHeartbeats 800000 in
theorem cEnter_room (c s r : Nat) (p : Int) (w : World) (hc : w.heap[c]? = some (.chan 1 #[] false s r false)) :
    Calls Try.prog 65 #[.chan (some c), .int .i64 p] w fun e w' => e = .returned (.bool true) ∧ w' = w.setChan c 1 #[.int .i64 p] false (s + 1) r false := by
  refine callsN Try.func65 rfl ?_
  simp only [Try.ntmps65, List.size_toArray, List.length_cons, List.length_nil, Nat.reduceAdd, Nat.reduceSub, Array.replicate_succ, Array.replicate_zero, List.push_toArray, List.append_toArray, List.nil_append, List.cons_append]
  refine wpN_seq_k fun K hK => ?_
  go_wp2
  refine wpN_seq_k fun K hK => ?_
  go_wp2
  refine wpN_seq_n fun K hK => ?_
  refine wpN_region ?_
  simp only [List.size_toArray, List.length_cons, List.length_nil, Nat.reduceAdd, Nat.zero_add, List.range, List.range.loop]
  refine opsN_put (c := c) (v := .int .i64 p) (z := .int .i64 0) rfl rfl (by simp [go_sem, execOp, scase, Act.eval]) hc (by simp) ?_
  refine opsN_op_k rfl rfl fun K2 hK2 => ?_
  unfold valN
  go_simp
  refine hK2 _ _ ?_
  clear hK2 K2
  refine opsN_op_k rfl rfl fun K2 hK2 => ?_
  unfold valN
  go_simp
  refine hK2 _ _ ?_
  clear hK2 K2
  refine opsN_nil ?_
  (try simp only [Exit.then])
  refine hK _ _ ?_
  clear hK K
  refine wpN_of ?_
  go_wp2
  go_ret
  exact ⟨rfl, rfl⟩

set_option maxRecDepth 20000 in
set_option maxHeartbeats 800000 in
theorem cEnter_full (c s r : Nat) (p q : Int) (w : World) (hc : w.heap[c]? = some (.chan 1 #[.int .i64 q] false s r false)) :
    Calls Try.prog 65 #[.chan (some c), .int .i64 p] w fun e w' => e = .returned (.bool false) ∧ w' = w := by
  refine callsN Try.func65 rfl ?_
  simp only [Try.ntmps65, List.size_toArray, List.length_cons, List.length_nil, Nat.reduceAdd, Nat.reduceSub, Array.replicate_succ, Array.replicate_zero, List.push_toArray, List.append_toArray, List.nil_append, List.cons_append]
  refine wpN_seq_k fun K hK => ?_
  go_wp2
  refine wpN_seq_k fun K hK => ?_
  go_wp2
  refine wpN_seq_n fun K hK => ?_
  refine wpN_region ?_
  simp only [List.size_toArray, List.length_cons, List.length_nil, Nat.reduceAdd, Nat.zero_add, List.range, List.range.loop]
  refine opsN_full (c := c) (v := .int .i64 p) (z := .int .i64 0) rfl rfl (by simp [go_sem, execOp, scase, Act.eval]) hc (by simp) ?_
  refine opsN_op_k rfl rfl fun K2 hK2 => ?_
  unfold valN
  go_simp
  refine hK2 _ _ ?_
  clear hK2 K2
  refine opsN_op_k rfl rfl fun K2 hK2 => ?_
  unfold valN
  go_simp
  refine hK2 _ _ ?_
  clear hK2 K2
  refine opsN_nil ?_
  (try simp only [Exit.then])
  refine hK _ _ ?_
  clear hK K
  refine wpN_of ?_
  go_wp2
  go_ret
  exact ⟨rfl, rfl⟩

set_option maxRecDepth 20000 in
set_option maxHeartbeats 800000 in
theorem cEmpty_yes (c s r : Nat) (w : World) (hc : w.heap[c]? = some (.chan 1 #[] false s r false)) :
    Calls Try.prog 53 #[.chan (some c)] w fun e w' => e = .returned (.bool true) ∧ w' = w := by
  refine callsN Try.func53 rfl ?_
  simp only [Try.ntmps53, List.size_toArray, List.length_cons, List.length_nil, Nat.reduceAdd, Nat.reduceSub, Array.replicate_succ, Array.replicate_zero, List.push_toArray, List.append_toArray, List.nil_append, List.cons_append]
  refine wpN_seq_k fun K hK => ?_
  go_wp2
  refine wpN_seq_k fun K hK => ?_
  go_wp2
  refine wpN_seq_n fun K hK => ?_
  refine wpN_region ?_
  simp only [List.size_toArray, List.length_cons, List.length_nil, Nat.reduceAdd, Nat.zero_add, List.range, List.range.loop]
  refine opsN_none (c := c) (z := .int .i64 0) rfl rfl (by simp [go_sem, execOp, rcase, Act.eval]) hc ?_
  refine opsN_op_k rfl rfl fun K2 hK2 => ?_
  unfold valN
  go_simp
  refine hK2 _ _ ?_
  clear hK2 K2
  refine opsN_op_k rfl rfl fun K2 hK2 => ?_
  unfold valN
  go_simp
  refine hK2 _ _ ?_
  clear hK2 K2
  refine opsN_nil ?_
  (try simp only [Exit.then])
  refine hK _ _ ?_
  clear hK K
  refine wpN_of ?_
  go_wp2
  go_ret
  exact ⟨rfl, rfl⟩

set_option maxRecDepth 20000 in
set_option maxHeartbeats 800000 in
theorem cEmpty_no (c s r : Nat) (q : Int) (w : World) (hc : w.heap[c]? = some (.chan 1 #[.int .i64 q] false s r false)) :
    Calls Try.prog 53 #[.chan (some c)] w fun e w' => e = .returned (.bool false) ∧ w' = (w.setChan c 1 #[] false s (r + 1) false).setChan c 1 #[.int .i64 q] false (s + 1) (r + 1) false := by
  have hlt : c < w.heap.size := lt_of_block hc
  have hc2 := heap_setChan w c 1 #[] false s (r + 1) false hlt
  refine callsN Try.func53 rfl ?_
  simp only [Try.ntmps53, List.size_toArray, List.length_cons, List.length_nil, Nat.reduceAdd, Nat.reduceSub, Array.replicate_succ, Array.replicate_zero, List.push_toArray, List.append_toArray, List.nil_append, List.cons_append]
  refine wpN_seq_k fun K hK => ?_
  go_wp2
  refine wpN_seq_k fun K hK => ?_
  go_wp2
  refine wpN_seq_n fun K hK => ?_
  refine wpN_region ?_
  simp only [List.size_toArray, List.length_cons, List.length_nil, Nat.reduceAdd, Nat.zero_add, List.range, List.range.loop]
  refine opsN_take (c := c) (z := .int .i64 0) rfl rfl (by simp [go_sem, execOp, rcase, Act.eval]) hc (by simp) ?_
  refine opsN_op_k rfl rfl fun K2 hK2 => ?_
  unfold valN
  go_simp
  refine hK2 _ _ ?_
  clear hK2 K2
  refine opsN_op_k rfl rfl fun K2 hK2 => ?_
  unfold valN
  go_simp
  refine hK2 _ _ ?_
  clear hK2 K2
  refine opsN_nil ?_
  (try simp only [Exit.then])
  refine hK _ _ ?_
  clear hK K
  refine wpN_block ?_
  refine wpN_true rfl ?_
  refine wpN_seq_k fun K hK => ?_
  go_wp2
  refine wpN_seq_n fun K hK => ?_
  refine wpN_region ?_
  simp only [List.size_toArray, List.length_cons, List.length_nil, Nat.reduceAdd, Nat.zero_add, List.range, List.range.loop]
  refine opsN_op_k rfl rfl fun K2 hK2 => ?_
  unfold valN
  go_simp
  refine hK2 _ _ ?_
  clear hK2 K2
  refine opsN_op_k rfl rfl fun K2 hK2 => ?_
  unfold valN
  go_simp
  refine hK2 _ _ ?_
  clear hK2 K2
  refine opsN_send (c := c) (v := .int .i64 q) (z := .tuple #[]) rfl rfl (by simp [execOp, scase, Act.eval]) hc2 (by simp) ?_
  refine opsN_nil ?_
  (try simp only [Exit.then])
  refine hK _ _ ?_
  clear hK K
  refine wpN_of ?_
  go_wp2
  go_ret
  exact ⟨rfl, rfl⟩
end Go.Proofs.Yteklmeekapegpaa
