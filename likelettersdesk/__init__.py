"""Letters and their likes."""
